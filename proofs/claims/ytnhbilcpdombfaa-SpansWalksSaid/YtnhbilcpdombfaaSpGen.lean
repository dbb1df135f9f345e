/- The law's pieces and pages over whatever iterator keeps the contract SeqO. -/
import Derived.Test.YtnhbilcpdombfaaSpPg
namespace Go.Proofs.Ytnhbilcpdombfaa
open Go.RowKit Go.Shelf
attribute [local go_sem] Oper.semAt_some

set_option maxHeartbeats 4000000 in
set_option maxRecDepth 100000 in
theorem lpieces_gen (q0 gf : Nat) (lb : Array Value) (L : List (Nat × Nat)) (most : Nat) (w : World) (h3 : 3 ≤ q0) (eg : ∀ args w, (callFunc gf args).run Try.prog w = .ok (.enter gf args) w) (hlN : L.length ≤ 524288)
    (hseq : ∀ bo W, w.heap.size ≤ bo → bo < W.heap.size → Below w.heap.size w W → Boxed W bo 22 (.slice none 0 0) → SeqO Fence.wide (q0 - 1) Try.prog gf lb spV (KeepD (rowR bo)) (fun ys => ys = L) (fun ys => ys <+: L) L.length W) :
    CallsIn Fence.wide q0 Try.prog 39 #[.func (.func gf) #[] lb, .int .i64 (most : Int)] w (LpPost (lpR most L) w) := by
  refine callsIn_of_wp_marks Try.func39 rfl trivial ?_ rfl
  simp only [Try.ntmps39, List.size_toArray, List.length_cons, List.length_nil, Nat.reduceAdd, Nat.reduceSub, Array.replicate_succ, Array.replicate_zero, List.push_toArray, List.append_toArray, List.nil_append, List.cons_append]
  have hwf : ∀ f, Fence.wide.fn f := fun _ => trivial
  have hwd : Fence.wide.depth.isSome = false := rfl
  have q46 := fun W f cs bs => run_eql_func_nil (P := Try.prog) W (t := 46) f cs bs Try.underlying46
  have HSQ := Lib.hid hseq; have HEG := Lib.hid eg
  clear hseq eg
  obtain ⟨i0, hi, hz0, hz1', hz2'⟩ := info_parts info_span
  have HI := Lib.hid hi; have HZ0 := Lib.hid hz0; have HZ1 := Lib.hid hz1'; have HZ2 := Lib.hid hz2'
  clear hi hz0 hz1' hz2'
  gi_wp2
  obtain ⟨z1, z2, z3, z4, z5, z6⟩ := alloc4 w (.cells #[.int .i64 (most : Int)] 3) (.cells #[.slice none 0 0] 22) (.cells #[.bool false] 4) (.cells #[.slice none 0 0] 22)
  generalize (((w.alloc (.cells #[.int .i64 (most : Int)] 3)).alloc (.cells #[.slice none 0 0] 22)).alloc (.cells #[.bool false] 4)).alloc (.cells #[.slice none 0 0] 22) = w3 at z1 z2 z3 z4 z5 z6 ⊢
  obtain ⟨bo, hbo⟩ : ∃ bo, bo = w.heap.size + 1 + 1 + 1 := ⟨_, rfl⟩
  rw [← hbo] at z6 ⊢
  have b1 : w.heap.size + 3 ≤ bo := by omega
  have b2 : bo < w3.heap.size := by omega
  have b3 : w.heap.size + 4 ≤ w3.heap.size := by omega
  clear hbo z2
  have hstops := HSQ.out bo w3 (by omega) b2 z1 (show Boxed w3 bo 22 (.slice none 0 0) from z6)
  have HBW := Lib.hid z1; have HG0 := Lib.hid z3; have HG1 := Lib.hid z4; have HG2 := Lib.hid z5
  have h7 : Boxed w3 bo 22 (.slice none 0 0) := z6
  clear z1 z3 z4 z5 z6 q46
  refine range_own rfl (by omega) (gf := gf) (lb := lb) rfl trivial HEG.out hstops KeepD.trans (fun W o o' ho hc => keepD_putObj (by omega) ho hc) (Below.refl _ _) (fun _ => rfl)
    (LpI most w3 bo) (LpX most w) (lpI_own most w3 bo) (fun c => lpX_own most w _ (by omega) c)
    ⟨BelowS.refl _ _ _, .slice none 0 0, h7, World.ownsRow_nil _ _ _ _, Nat.zero_le _⟩
    (fun x a' W2 => ∃ Bx : Nat, w3.heap.size ≤ Bx ∧ W2.heap[Bx]? = some (.cells #[.int .i64 (x.1 : Int), .int .i64 (x.2 : Int)] 31 (0, 0)) ∧ a' =
        { tmps := #[.func (.func gf) #[] lb,
          .int .i64 (most : Int), undef, .pointer (some ⟨w.heap.size, 0, none⟩), .pointer (some ⟨w.heap.size + 1, 0, none⟩), .pointer (some ⟨w.heap.size + 1 + 1, 0, none⟩), .pointer (some ⟨bo, 0, none⟩), .pointer (some ⟨Bx, 0, none⟩),
          .func (.func gf) #[] lb, .bool false, .func (.func gf) #[] lb,
          .agg #[.int .i64 (x.1 : Int), .int .i64 (x.2 : Int)], undef, undef, undef, undef, undef, undef, undef, undef, undef], defers := [] })
    (fun x a' s A B row ⟨Bx, h1, h2, h3⟩ hg hr => ⟨Bx, h1, cells_own (fun _ : Unit => Bx) (fun _ => #[.int .i64 (x.1 : Int), .int .i64 (x.2 : Int)]) 31 s A B row h2 hg hr, h3⟩) ?assign ?body ?done ?stop
  case assign =>
    intro ly pre x W2 K2 hi hK2
    have hsz := hi.1.size
    have HI2 := Lib.hid hi; clear hi
    simp only [spV]
    gi_wp2
    have hbx : Below W2.heap.size W2 (W2.alloc (.cells #[.int .i64 (x.1 : Int), .int .i64 (x.2 : Int)] 31)) := (Below.refl _ _).alloc (Nat.le_refl _) _
    obtain ⟨j1, v, j2, j3, j4⟩ := HI2.out
    exact hK2 _ _ ((KeepsOthers.alloc _ _).from _) (KeepD.of (rowR_stab (D := w3.heap.size) (by omega)) hsz hbx) ⟨j1.trans (BelowS.of (hbx.mono (by omega))), v, j2.alloc _, j3.alloc _, j4⟩ ⟨W2.heap.size, by omega, heap_alloc_new _ _, rfl⟩
  case body =>
    rintro ly pre x a' W2 hly ⟨hbx, v, hk7, hown, hpm⟩ ⟨Bx, hBx, hbox, rfl⟩ hlt
    have hwf2 : ∀ f, (Fence.wide.inRound ly).fn f := fun _ => trivial
    have hwd2 : (Fence.wide.inRound ly).depth.isSome = false := rfl
    obtain ⟨xs, xe⟩ := x
    simp only at hbox ⊢
    have k0 := row_cell (i := 0) (v := .int .i64 (xs : Int)) hbox rfl
    have k1 := row_cell (i := 1) (v := .int .i64 (xe : Int)) hbox rfl
    have j7 := hk7.cell
    have f7 := hk7.frozen
    have hq0 := (hbx.block w.heap.size (by omega) (by omega)).trans HG0.out
    have hq1 := (hbx.block (w.heap.size + 1) (by omega) (by omega)).trans HG1.out
    have hq2 := (hbx.block (w.heap.size + 1 + 1) (by omega) (by omega)).trans HG2.out
    have g0 := (row1_cell hq0).1
    obtain ⟨k3, f3⟩ := row1_cell hq1
    obtain ⟨k4, f4⟩ := row1_cell hq2
    have hszD := hbx.size
    obtain ⟨N, hN⟩ : ∃ N, N = pre.length := ⟨_, rfl⟩
    obtain ⟨pv, cv, rfl⟩ : ∃ pv cv, v = .slice pv N cv := by
      rcases hown.2 with ⟨h, h0⟩ | ⟨g, c, cur, h, _⟩
      · exact ⟨none, 0, by rw [h, hN, h0]⟩
      · exact ⟨_, _, by rw [h, hN]⟩
    have HBX := Lib.hid hbx; have HK7 := Lib.hid hk7; have HQ1 := Lib.hid hq1; have HQ2 := Lib.hid hq2
    by_cases hm : N = most
    · have t1 : ((N : Int) == (most : Int)) = true := by rw [hm]; exact beq_self_eq_true _
      have hbb : Below w.heap.size w W2 := HBW.out.trans ⟨hbx.os, hbx.tape, hbx.output, hbx.size, fun k hk => hbx.block k (by omega) (by omega)⟩
      have HBB := Lib.hid hbb; have HMM := Lib.hid (show most < (pre ++ [(xs, xe)]).length by rw [List.length_append, ← hN, hm]; simp)
      clear hbx hbox hstops hk7 hown hlt hN hm hq0 hq1 hq2 hbb hlN h7 hpm
      gi_wp2
      refine ⟨((KeepsOthers.setCell _ _ _).trans (KeepsOthers.setCell _ _ _)).from _, ⟨rfl, HMM.out, ?_, ?_⟩, ?_⟩
      · rw [Below.heap_setCell _ _ _ _ (by simp)]; exact set_row1 HQ1.out
      · have h3 : (W2.setCell ⟨w.heap.size + 1, 0, none⟩ (.slice none 0 0)).heap[w.heap.size + 1 + 1]? = some (.cells #[.bool false] 4 (0, 0)) := by
          rw [Below.heap_setCell _ _ _ _ (by simp)]; exact HQ2.out
        exact set_row1 h3
      · exact set1B (set1B HBB.out (by omega) _) (by omega) _
    · have t1 : ((N : Int) == (most : Int)) = false := beq_eq_false_iff_ne.2 (by omega)
      have hsn := SpC_snoc pre xs xe
      have hb1 : N + 1 ≤ maxLen := by unfold maxLen; omega
      have hb2 : (N + 1) * 16 ≤ 140737488355328 := by omega
      have hpm2 : (pre ++ [(xs, xe)]).length ≤ most := by rw [List.length_append, ← hN]; simp; omega
      rw [← hN] at hown
      have hbD : bo < w3.heap.size := by omega
      have HL1 := Lib.hid hb1; have HL2 := Lib.hid hb2; have H1C := Lib.hid (two_onecell (xs : Int) (xe : Int))
      have HOWN := Lib.hid hown; have HSN := Lib.hid hsn; have HPM := Lib.hid hpm2; have HNN := Lib.hid hN
      clear hbx hbox hstops hk7 hown hlt hN hm hq0 hq1 hq2 hlN h7 hpm hb1 hb2 hsn hpm2 k3 k4 f3 f4
      gi_wp2_with (gi_at_builtin; refine wpListIn_append_own_at _ rfl _ _ 22 rfl w3.heap.size 31 i0 (.agg #[.int .i64 0, .int .i64 0]) 2 16 Try.underlying22 HI.out HZ0.out HZ1.out HZ2.out rfl (by decide) _ _ _ rfl (HOWN.out.alloc _) ⟨W2.heap.size, 0, none⟩ 1 1 [.int .i64 (xs : Int), .int .i64 (xe : Int)] rfl rfl (cellB_two _ _ _ _ _ rfl) H1C.out HL1.out HL2.out (by simp; omega) ?_; intro v4 w4 hown4 hgrow4 hnil4 hat4; obtain ⟨g4, cap4, rfl⟩ := ownsRow_succ hown4; obtain ⟨n1, n2, n3, n4, n5, n6⟩ := app_sps HK7.out (by decide) HOWN.out hszD hbD hown4 hgrow4 hat4; have j8 := n1.cell; have f8 := n1.frozen; have HN2 := Lib.hid n2; have HN3 := Lib.hid n3; have HN4 := Lib.hid n4; have HN5 := Lib.hid n5; have HN6 := Lib.hid n6; clear hown4 hgrow4 hnil4 hat4 n1 n2 n3 n4 n5 n6)
      exact ⟨HN4.out.from _, HN6.out, HBX.out.trans HN5.out, _, HN2.out, by rw [HSN.out, List.length_append, ← HNN.out]; exact HN3.out, HPM.out⟩
  case done =>
    rintro D' ys W2 hD' hys ⟨hbx, v, hk7, hown, hpm⟩ hmark
    have hys' : ys = L := hys
    rw [hys'] at hown hpm
    have hlp : lpR most (L) = (L, true) := by unfold lpR; rw [if_pos hpm]
    have HLP := Lib.hid hlp
    obtain ⟨pv, nv, cv, rfl⟩ : ∃ pv nv cv, v = .slice pv nv cv := by
      rcases hown.2 with ⟨h, h0⟩ | ⟨g, c, cur, h, _⟩
      · exact ⟨_, _, _, h⟩
      · exact ⟨_, _, _, h⟩
    have j7 := hk7.cell
    have hq1 := (hbx.block (w.heap.size + 1) (by omega) (by omega)).trans HG1.out
    have hq2 := (hbx.block (w.heap.size + 1 + 1) (by omega) (by omega)).trans HG2.out
    obtain ⟨k3, f3⟩ := row1_cell hq1
    obtain ⟨k4, f4⟩ := row1_cell hq2
    have hbb : Below w.heap.size w W2 := HBW.out.trans ⟨hbx.os, hbx.tape, hbx.output, hbx.size, fun k hk => hbx.block k (by omega) (by omega)⟩
    have hW2 := hbx.size
    have HBB := Lib.hid hbb; have HM := Lib.hid hmark; have HOWN := Lib.hid hown; have HQ1 := Lib.hid hq1; have HQ2 := Lib.hid hq2
    clear hys hys' hbx hk7 hmark hbb hstops hown hpm hlp hq1 hq2 hlN h7
    gi_wp2
    have r2 : ((W2.setCell ⟨w.heap.size + 1, 0, none⟩ (.slice pv nv cv)).setCell ⟨w.heap.size + 1 + 1, 0, none⟩ (.bool true)).heap[w.heap.size + 1]? = some (.cells #[.slice pv nv cv] 22 (0, 0)) := by
      rw [Below.heap_setCell _ _ _ _ (by simp)]; exact set_row1 HQ1.out
    have r3 : ((W2.setCell ⟨w.heap.size + 1, 0, none⟩ (.slice pv nv cv)).setCell ⟨w.heap.size + 1 + 1, 0, none⟩ (.bool true)).heap[w.heap.size + 1 + 1]? = some (.cells #[.bool true] 4 (0, 0)) := by
      have h3 : (W2.setCell ⟨w.heap.size + 1, 0, none⟩ (.slice pv nv cv)).heap[w.heap.size + 1 + 1]? = some (.cells #[.bool false] 4 (0, 0)) := by
        rw [Below.heap_setCell _ _ _ _ (by simp)]; exact HQ2.out
      exact set_row1 h3
    have hb3 : Below w.heap.size w ((W2.setCell ⟨w.heap.size + 1, 0, none⟩ (.slice pv nv cv)).setCell ⟨w.heap.size + 1 + 1, 0, none⟩ (.bool true)) := set1B (set1B HBB.out (by omega) _) (by omega) _
    have hm3 : ((W2.setCell ⟨w.heap.size + 1, 0, none⟩ (.slice pv nv cv)).setCell ⟨w.heap.size + 1 + 1, 0, none⟩ (.bool true)).heap[D']? = some (.deferred (some [])) := by
      rw [Below.heap_setCell _ _ _ _ (by simp; omega), Below.heap_setCell _ _ _ _ (by simp; omega)]; exact HM.out
    have hr3 : ((W2.setCell ⟨w.heap.size + 1, 0, none⟩ (.slice pv nv cv)).setCell ⟨w.heap.size + 1 + 1, 0, none⟩ (.bool true)).ownsRow w3.heap.size 31 2 (.slice pv nv cv) (L).length (SpC (L)) := by
      have hne : ∀ k, k < w3.heap.size → (Value.slice pv nv cv).ownBlock = none ∨ (Value.slice pv nv cv).ownBlock ≠ some k := fun k hk => .inr fun e => by
        have := (HOWN.out.lt k e).1; omega
      exact (HOWN.out.kept (grownBy_setCell' W2 _ _) (hne _ (by omega))).kept (grownBy_setCell' _ _ _) (hne _ (by omega))
    generalize (W2.setCell ⟨w.heap.size + 1, 0, none⟩ (.slice pv nv cv)).setCell ⟨w.heap.size + 1 + 1, 0, none⟩ (.bool true) = W3 at r2 r3 hb3 hm3 hr3 ⊢
    refine ⟨by simp, .inl ⟨D', _, rfl, run_takeDeferred hm3, ?_⟩⟩
    have k5 := (row1_cell ((World.putObj_heap_other (w := W3) (o := .deferred none) (show w.heap.size + 1 ≠ D' by omega)).trans r2)).1
    have k6 := (row1_cell ((World.putObj_heap_other (w := W3) (o := .deferred none) (show w.heap.size + 1 + 1 ≠ D' by omega)).trans r3)).1
    refine ⟨.tuple #[.slice pv nv cv, .bool true], by simp [results, Try.results39, go_sem, k5, k6], ?_⟩
    rw [HLP.out]
    refine ⟨_, rfl, ?_, ?_⟩
    · exact hb3.trans ((Below.refl _ _).grown (grownBy_putObj' W3 D' _) (by have := hb3.size; omega) (fun k e => by cases e; omega))
    · exact ownsRow_base (ownsRow_putObj hr3 _ hm3 rfl) (by omega)
  case stop =>
    rintro D' c pre W2 hD' hpre ⟨⟨rfl, hmm, h5, h6⟩, hbel⟩ hmark
    have hlp : lpR most (L) = ([], false) := by
      unfold lpR
      rw [if_neg]
      have := (show pre <+: L from hpre).length_le
      omega
    have HLP := Lib.hid hlp; have HBE := Lib.hid hbel; have H5 := Lib.hid h5; have H6 := Lib.hid h6; have HM := Lib.hid hmark
    clear hlp hbel h5 h6 hmark hpre hstops hlN h7
    gi_wp2
    refine leaves_marks (w.heap.size + 4) W2 [D'] W2 (fun E hE => ?_) (by simp) (Below.refl _ _) (fun W' hb' => ?_)
    · obtain rfl := List.mem_singleton.1 hE
      exact ⟨by omega, HM.out⟩
    · have k5 := (row1_cell ((hb'.block _ (by omega)).trans H5.out)).1
      have k6 := (row1_cell ((hb'.block _ (by omega)).trans H6.out)).1
      refine ⟨.tuple #[.slice none 0 0, .bool false], by simp [results, Try.results39, go_sem, k5, k6], ?_⟩
      rw [HLP.out]
      exact ⟨_, rfl, HBE.out.trans (hb'.mono (by omega)), World.ownsRow_nil _ _ _ _⟩
def pgV (x : Nat) : Array Value := #[.int .i64 (x : Int)]
def PgC (s : List Nat) : List Value := s.map fun x : Nat => Value.int .i64 (x : Int)
theorem PgC_snoc (s : List Nat) (a : Nat) : PgC (s ++ [a]) = PgC s ++ [.int .i64 (a : Int)] := by simp [PgC]
theorem info_int : (Try.prog.info? 3).map (fun i => (i.zero, i.size, i.bytes)) = some (some (.int .i64 0), 1, 8) := by kernel_rfl
theorem cellB_one (w : World) (a : Value) (t : TypeId) (n : Nat) (hn : n = w.heap.size) : ∀ j u, [a][j]? = some u → (w.alloc (.cells #[a] t)).cell? ((⟨n, 0, none⟩ : Addr).add j) = some u := by
  subst hn
  intro j u hu
  rw [WideShapes.add_plain]
  have h := heap_alloc_new w (.cells #[a] t)
  match j, hu with
  | 0, hu => exact row_cell h (by simpa using hu)
theorem one_onecell (a : Int) : ∀ u ∈ [Value.int .i64 a], u.oneCell' = true := by
  intro u hu
  obtain rfl := List.mem_singleton.1 hu
  rfl
/-- What holds between two rounds. -/
def LgI (most : Nat) (w3 : World) (b : Nat) (pre : List Nat) (W : World) : Prop :=
  BelowS (fun k => k = b) w3.heap.size w3 W ∧ ∃ v, Boxed W b 48 v ∧ W.ownsRow w3.heap.size 3 1 v pre.length (PgC pre) ∧ pre.length ≤ most
theorem lgI_own (most : Nat) (w3 : World) (b : Nat) : OwnFrom w3.heap.size (LgI most w3 b) :=
  OwnFrom.and (belowS_own (Nat.le_refl _)) ((holdsRow_own w3.heap.size b 48 3 1 (fun pre : List Nat => pre.length) (fun pre => PgC pre) (fun pre _ => pre.length ≤ most)).from _)
def lgR (most : Nat) (L : List Nat) : List Nat × Bool := if L.length ≤ most then (L, true) else ([], false)
def LgPost (r : List Nat × Bool) (w : World) (e : Ending) (w' : World) : Prop := ∃ v, e = .returned (.tuple #[v, .bool r.2]) ∧ Below w.heap.size w w' ∧ w'.ownsRow w.heap.size 3 1 v r.1.length (PgC r.1)
def LgX (most : Nat) (w : World) (c : Code) (pre : List Nat) (W : World) : Prop :=
  (c = .ret ∧ most < pre.length ∧ W.heap[w.heap.size + 1]? = some (.cells #[.slice none 0 0] 48 (0, 0)) ∧ W.heap[w.heap.size + 1 + 1]? = some (.cells #[.bool false] 4 (0, 0))) ∧ Below w.heap.size w W
theorem lgX_own (most : Nat) (w : World) (B : Nat) (hB : w.heap.size ≤ B) (c : Code) : OwnFrom B (LgX most w c) :=
  OwnFrom.and (fun s A B row hs hg hr => by
      obtain ⟨h1, h2, h5, h6⟩ := hs
      exact ⟨h1, h2, cells_own (fun _ : Unit => w.heap.size + 1) (fun _ => #[.slice none 0 0]) 48 () A B row h5 hg hr, cells_own (fun _ : Unit => w.heap.size + 1 + 1) (fun _ => #[.bool false]) 4 () A B row h6 hg hr⟩) (below_own hB (Nat.le_refl _))
set_option maxHeartbeats 4000000 in
set_option maxRecDepth 100000 in
theorem lpages_gen (q0 gf : Nat) (lb : Array Value) (L : List (Nat)) (most : Nat) (w : World) (h3 : 3 ≤ q0) (eg : ∀ args w, (callFunc gf args).run Try.prog w = .ok (.enter gf args) w) (hlN : L.length ≤ 524288)
    (hseq : ∀ bo W, w.heap.size ≤ bo → bo < W.heap.size → Below w.heap.size w W → Boxed W bo 48 (.slice none 0 0) → SeqO Fence.wide (q0 - 1) Try.prog gf lb pgV (KeepD (rowR bo)) (fun ys => ys = L) (fun ys => ys <+: L) L.length W) :
    CallsIn Fence.wide q0 Try.prog 38 #[.func (.func gf) #[] lb, .int .i64 (most : Int)] w (LgPost (lgR most L) w) := by
  refine callsIn_of_wp_marks Try.func38 rfl trivial ?_ rfl
  simp only [Try.ntmps38, List.size_toArray, List.length_cons, List.length_nil, Nat.reduceAdd, Nat.reduceSub, Array.replicate_succ, Array.replicate_zero, List.push_toArray, List.append_toArray, List.nil_append, List.cons_append]
  have hwf : ∀ f, Fence.wide.fn f := fun _ => trivial
  have hwd : Fence.wide.depth.isSome = false := rfl
  have q46 := fun W f cs bs => run_eql_func_nil (P := Try.prog) W (t := 43) f cs bs Try.underlying43
  have HSQ := Lib.hid hseq; have HEG := Lib.hid eg
  clear hseq eg
  obtain ⟨i0, hi, hz0, hz1', hz2'⟩ := info_parts info_int
  have HI := Lib.hid hi; have HZ0 := Lib.hid hz0; have HZ1 := Lib.hid hz1'; have HZ2 := Lib.hid hz2'
  clear hi hz0 hz1' hz2'
  gi_wp2
  obtain ⟨z1, z2, z3, z4, z5, z6⟩ := alloc4 w (.cells #[.int .i64 (most : Int)] 3) (.cells #[.slice none 0 0] 48) (.cells #[.bool false] 4) (.cells #[.slice none 0 0] 48)
  generalize (((w.alloc (.cells #[.int .i64 (most : Int)] 3)).alloc (.cells #[.slice none 0 0] 48)).alloc (.cells #[.bool false] 4)).alloc (.cells #[.slice none 0 0] 48) = w3 at z1 z2 z3 z4 z5 z6 ⊢
  obtain ⟨bo, hbo⟩ : ∃ bo, bo = w.heap.size + 1 + 1 + 1 := ⟨_, rfl⟩
  rw [← hbo] at z6 ⊢
  have b1 : w.heap.size + 3 ≤ bo := by omega
  have b2 : bo < w3.heap.size := by omega
  have b3 : w.heap.size + 4 ≤ w3.heap.size := by omega
  clear hbo z2
  have hstops := HSQ.out bo w3 (by omega) b2 z1 (show Boxed w3 bo 48 (.slice none 0 0) from z6)
  have HBW := Lib.hid z1; have HG0 := Lib.hid z3; have HG1 := Lib.hid z4; have HG2 := Lib.hid z5
  have h7 : Boxed w3 bo 48 (.slice none 0 0) := z6
  clear z1 z3 z4 z5 z6 q46
  refine range_own rfl (by omega) (gf := gf) (lb := lb) rfl trivial HEG.out hstops KeepD.trans (fun W o o' ho hc => keepD_putObj (by omega) ho hc) (Below.refl _ _) (fun _ => rfl)
    (LgI most w3 bo) (LgX most w) (lgI_own most w3 bo) (fun c => lgX_own most w _ (by omega) c)
    ⟨BelowS.refl _ _ _, .slice none 0 0, h7, World.ownsRow_nil _ _ _ _, Nat.zero_le _⟩
    (fun x a' _ => a' = { tmps := #[.func (.func gf) #[] lb, .int .i64 (most : Int), undef, .pointer (some ⟨w.heap.size, 0, none⟩), .pointer (some ⟨w.heap.size + 1, 0, none⟩), .pointer (some ⟨w.heap.size + 1 + 1, 0, none⟩), .pointer (some ⟨bo, 0, none⟩), .int .i64 (x : Int),
          .func (.func gf) #[] lb, .bool false, .func (.func gf) #[] lb, .int .i64 (x : Int), undef, undef, undef, undef, undef, undef, undef, undef, undef], defers := [] })
    (fun x a' s A B row h hg hr => h) ?assign ?body ?done ?stop
  case assign =>
    intro ly pre x W2 K2 hi hK2
    have HI2 := Lib.hid hi; clear hi
    simp only [pgV]
    gi_wp2
    exact hK2 _ _ (KeepsFrom.refl _ _) (KeepD.refl _ _) HI2.out rfl
  case body =>
    rintro ly pre x a' W2 hly ⟨hbx, v, hk7, hown, hpm⟩ rfl hlt
    have hwf2 : ∀ f, (Fence.wide.inRound ly).fn f := fun _ => trivial
    have hwd2 : (Fence.wide.inRound ly).depth.isSome = false := rfl
    have j7 := hk7.cell
    have f7 := hk7.frozen
    have hq0 := (hbx.block w.heap.size (by omega) (by omega)).trans HG0.out
    have hq1 := (hbx.block (w.heap.size + 1) (by omega) (by omega)).trans HG1.out
    have hq2 := (hbx.block (w.heap.size + 1 + 1) (by omega) (by omega)).trans HG2.out
    have g0 := (row1_cell hq0).1
    obtain ⟨k3, f3⟩ := row1_cell hq1
    obtain ⟨k4, f4⟩ := row1_cell hq2
    have hszD := hbx.size
    obtain ⟨N, hN⟩ : ∃ N, N = pre.length := ⟨_, rfl⟩
    obtain ⟨pv, cv, rfl⟩ : ∃ pv cv, v = .slice pv N cv := by
      rcases hown.2 with ⟨h, h0⟩ | ⟨g, c, cur, h, _⟩
      · exact ⟨none, 0, by rw [h, hN, h0]⟩
      · exact ⟨_, _, by rw [h, hN]⟩
    have HBX := Lib.hid hbx; have HK7 := Lib.hid hk7; have HQ1 := Lib.hid hq1; have HQ2 := Lib.hid hq2
    by_cases hm : N = most
    · have t1 : ((N : Int) == (most : Int)) = true := by rw [hm]; exact beq_self_eq_true _
      have hbb : Below w.heap.size w W2 := HBW.out.trans ⟨hbx.os, hbx.tape, hbx.output, hbx.size, fun k hk => hbx.block k (by omega) (by omega)⟩
      have HBB := Lib.hid hbb; have HMM := Lib.hid (show most < (pre ++ [x]).length by rw [List.length_append, ← hN, hm]; simp)
      clear hbx hstops hk7 hown hlt hN hm hq0 hq1 hq2 hbb hlN h7 hpm
      gi_wp2
      refine ⟨((KeepsOthers.setCell _ _ _).trans (KeepsOthers.setCell _ _ _)).from _, ⟨rfl, HMM.out, ?_, ?_⟩, ?_⟩
      · rw [Below.heap_setCell _ _ _ _ (by simp)]; exact set_row1 HQ1.out
      · have h3 : (W2.setCell ⟨w.heap.size + 1, 0, none⟩ (.slice none 0 0)).heap[w.heap.size + 1 + 1]? = some (.cells #[.bool false] 4 (0, 0)) := by
          rw [Below.heap_setCell _ _ _ _ (by simp)]; exact HQ2.out
        exact set_row1 h3
      · exact set1B (set1B HBB.out (by omega) _) (by omega) _
    · have t1 : ((N : Int) == (most : Int)) = false := beq_eq_false_iff_ne.2 (by omega)
      have hsn := PgC_snoc pre x
      have hb1 : N + 1 ≤ maxLen := by unfold maxLen; omega
      have hb2 : (N + 1) * 8 ≤ 140737488355328 := by omega
      have hpm2 : (pre ++ [x]).length ≤ most := by rw [List.length_append, ← hN]; simp; omega
      rw [← hN] at hown
      have hbD : bo < w3.heap.size := by omega
      have HL1 := Lib.hid hb1; have HL2 := Lib.hid hb2; have H1C := Lib.hid (one_onecell (x : Int))
      have HOWN := Lib.hid hown; have HSN := Lib.hid hsn; have HPM := Lib.hid hpm2; have HNN := Lib.hid hN
      clear hbx hstops hk7 hown hlt hN hm hq0 hq1 hq2 hlN h7 hpm hb1 hb2 hsn hpm2 k3 k4 f3 f4
      gi_wp2_with (gi_at_builtin; refine wpListIn_append_own_at _ rfl _ _ 48 rfl w3.heap.size 3 i0 (.int .i64 0) 1 8 Try.underlying48 HI.out HZ0.out HZ1.out HZ2.out rfl (by decide) _ _ _ rfl (HOWN.out.alloc _) ⟨W2.heap.size, 0, none⟩ 1 1 [.int .i64 (x : Int)] rfl rfl (cellB_one _ _ _ _ rfl) H1C.out HL1.out HL2.out (by simp; omega) ?_; intro v4 w4 hown4 hgrow4 hnil4 hat4; obtain ⟨g4, cap4, rfl⟩ := ownsRow_succ hown4; obtain ⟨n1, n2, n3, n4, n5, n6⟩ := app_sps HK7.out (by decide) HOWN.out hszD hbD hown4 hgrow4 hat4; have j8 := n1.cell; have f8 := n1.frozen; have HN2 := Lib.hid n2; have HN3 := Lib.hid n3; have HN4 := Lib.hid n4; have HN5 := Lib.hid n5; have HN6 := Lib.hid n6; clear hown4 hgrow4 hnil4 hat4 n1 n2 n3 n4 n5 n6)
      exact ⟨HN4.out.from _, HN6.out, HBX.out.trans HN5.out, _, HN2.out, by rw [HSN.out, List.length_append, ← HNN.out]; exact HN3.out, HPM.out⟩
  case done =>
    rintro D' ys W2 hD' hys ⟨hbx, v, hk7, hown, hpm⟩ hmark
    have hys' : ys = L := hys
    rw [hys'] at hown hpm
    have hlp : lgR most (L) = (L, true) := by unfold lgR; rw [if_pos hpm]
    have HLP := Lib.hid hlp
    obtain ⟨pv, nv, cv, rfl⟩ : ∃ pv nv cv, v = .slice pv nv cv := by
      rcases hown.2 with ⟨h, h0⟩ | ⟨g, c, cur, h, _⟩
      · exact ⟨_, _, _, h⟩
      · exact ⟨_, _, _, h⟩
    have j7 := hk7.cell
    have hq1 := (hbx.block (w.heap.size + 1) (by omega) (by omega)).trans HG1.out
    have hq2 := (hbx.block (w.heap.size + 1 + 1) (by omega) (by omega)).trans HG2.out
    obtain ⟨k3, f3⟩ := row1_cell hq1
    obtain ⟨k4, f4⟩ := row1_cell hq2
    have hbb : Below w.heap.size w W2 := HBW.out.trans ⟨hbx.os, hbx.tape, hbx.output, hbx.size, fun k hk => hbx.block k (by omega) (by omega)⟩
    have hW2 := hbx.size
    have HBB := Lib.hid hbb; have HM := Lib.hid hmark; have HOWN := Lib.hid hown; have HQ1 := Lib.hid hq1; have HQ2 := Lib.hid hq2
    clear hys hys' hbx hk7 hmark hbb hstops hown hpm hlp hq1 hq2 hlN h7
    gi_wp2
    have r2 : ((W2.setCell ⟨w.heap.size + 1, 0, none⟩ (.slice pv nv cv)).setCell ⟨w.heap.size + 1 + 1, 0, none⟩ (.bool true)).heap[w.heap.size + 1]? = some (.cells #[.slice pv nv cv] 48 (0, 0)) := by
      rw [Below.heap_setCell _ _ _ _ (by simp)]; exact set_row1 HQ1.out
    have r3 : ((W2.setCell ⟨w.heap.size + 1, 0, none⟩ (.slice pv nv cv)).setCell ⟨w.heap.size + 1 + 1, 0, none⟩ (.bool true)).heap[w.heap.size + 1 + 1]? = some (.cells #[.bool true] 4 (0, 0)) := by
      have h3 : (W2.setCell ⟨w.heap.size + 1, 0, none⟩ (.slice pv nv cv)).heap[w.heap.size + 1 + 1]? = some (.cells #[.bool false] 4 (0, 0)) := by
        rw [Below.heap_setCell _ _ _ _ (by simp)]; exact HQ2.out
      exact set_row1 h3
    have hb3 : Below w.heap.size w ((W2.setCell ⟨w.heap.size + 1, 0, none⟩ (.slice pv nv cv)).setCell ⟨w.heap.size + 1 + 1, 0, none⟩ (.bool true)) := set1B (set1B HBB.out (by omega) _) (by omega) _
    have hm3 : ((W2.setCell ⟨w.heap.size + 1, 0, none⟩ (.slice pv nv cv)).setCell ⟨w.heap.size + 1 + 1, 0, none⟩ (.bool true)).heap[D']? = some (.deferred (some [])) := by
      rw [Below.heap_setCell _ _ _ _ (by simp; omega), Below.heap_setCell _ _ _ _ (by simp; omega)]; exact HM.out
    have hr3 : ((W2.setCell ⟨w.heap.size + 1, 0, none⟩ (.slice pv nv cv)).setCell ⟨w.heap.size + 1 + 1, 0, none⟩ (.bool true)).ownsRow w3.heap.size 3 1 (.slice pv nv cv) (L).length (PgC L) := by
      have hne : ∀ k, k < w3.heap.size → (Value.slice pv nv cv).ownBlock = none ∨ (Value.slice pv nv cv).ownBlock ≠ some k := fun k hk => .inr fun e => by
        have := (HOWN.out.lt k e).1; omega
      exact (HOWN.out.kept (grownBy_setCell' W2 _ _) (hne _ (by omega))).kept (grownBy_setCell' _ _ _) (hne _ (by omega))
    generalize (W2.setCell ⟨w.heap.size + 1, 0, none⟩ (.slice pv nv cv)).setCell ⟨w.heap.size + 1 + 1, 0, none⟩ (.bool true) = W3 at r2 r3 hb3 hm3 hr3 ⊢
    refine ⟨by simp, .inl ⟨D', _, rfl, run_takeDeferred hm3, ?_⟩⟩
    have k5 := (row1_cell ((World.putObj_heap_other (w := W3) (o := .deferred none) (show w.heap.size + 1 ≠ D' by omega)).trans r2)).1
    have k6 := (row1_cell ((World.putObj_heap_other (w := W3) (o := .deferred none) (show w.heap.size + 1 + 1 ≠ D' by omega)).trans r3)).1
    refine ⟨.tuple #[.slice pv nv cv, .bool true], by simp [results, Try.results38, go_sem, k5, k6], ?_⟩
    rw [HLP.out]
    refine ⟨_, rfl, ?_, ?_⟩
    · exact hb3.trans ((Below.refl _ _).grown (grownBy_putObj' W3 D' _) (by have := hb3.size; omega) (fun k e => by cases e; omega))
    · exact ownsRow_base (ownsRow_putObj hr3 _ hm3 rfl) (by omega)
  case stop =>
    rintro D' c pre W2 hD' hpre ⟨⟨rfl, hmm, h5, h6⟩, hbel⟩ hmark
    have hlp : lgR most (L) = ([], false) := by
      unfold lgR
      rw [if_neg]
      have := (show pre <+: L from hpre).length_le
      omega
    have HLP := Lib.hid hlp; have HBE := Lib.hid hbel; have H5 := Lib.hid h5; have H6 := Lib.hid h6; have HM := Lib.hid hmark
    clear hlp hbel h5 h6 hmark hpre hstops hlN h7
    gi_wp2
    refine leaves_marks (w.heap.size + 4) W2 [D'] W2 (fun E hE => ?_) (by simp) (Below.refl _ _) (fun W' hb' => ?_)
    · obtain rfl := List.mem_singleton.1 hE
      exact ⟨by omega, HM.out⟩
    · have k5 := (row1_cell ((hb'.block _ (by omega)).trans H5.out)).1
      have k6 := (row1_cell ((hb'.block _ (by omega)).trans H6.out)).1
      refine ⟨.tuple #[.slice none 0 0, .bool false], by simp [results, Try.results38, go_sem, k5, k6], ?_⟩
      rw [HLP.out]
      exact ⟨_, rfl, HBE.out.trans (hb'.mono (by omega)), World.ownsRow_nil _ _ _ _⟩
end Go.Proofs.Ytnhbilcpdombfaa
