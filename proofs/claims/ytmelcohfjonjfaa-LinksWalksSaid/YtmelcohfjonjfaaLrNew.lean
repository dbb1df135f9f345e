/- links: the reference's New. -/
import Derived.Test.YtmelcohfjonjfaaLkLen
import Derived.Laws.ResultCell
namespace Go.Proofs.Ytmelcohfjonjfaa
open Go.RowKit

theorem info_row : (Try.prog.info? 29).map (fun i => (i.zero, i.size, i.bytes)) = some (some (.slice none 0 0), 1, 24) := by kernel_rfl
theorem info_lists : (Try.prog.info? 31).map (·.size) = some 3 := by kernel_rfl
def RNewPost (n m : Nat) (W : World) (e : Ending) (W' : World) : Prop :=
  ∃ g gv cg cv : Nat, e = .returned (.tuple #[.agg #[.int .i64 (n : Int), .slice (some ⟨g, 0, none⟩) m cg, .slice (some ⟨gv, 0, none⟩) n cv], .int .i64 0]) ∧
    (∃ cur, W'.heap[g]? = some (.cells cur 29 (0, 0)) ∧ m ≤ cur.size ∧ ∀ j, j < m → cur[j]? = some (.slice none 0 0)) ∧ RowF W' gv n (fun _ => 0) ∧ W.heap.size ≤ g ∧ W.heap.size ≤ gv ∧ g ≠ gv ∧ Below W.heap.size W W'
theorem ret_lists {tmps : Array Value} {w : World} {R : Nat} {a b c : Value} (hp : tmps.getD 4 undef = .pointer (some ⟨R, 0, none⟩)) (hg : w.heap[R]? = some (.cells #[a, b, c] 31 (0, 0))) :
    (results Try.f11 tmps).run Try.prog w = .ok (.tuple #[.agg #[a, b, c], tmps.getD 5 undef]) w := by
  rw [results_cell_tmp rfl, hp]
  have h := run_loadVar_row (P := Try.prog) w R 31 31 #[a, b, c] (0, 0) _ hg Try.underlying31 rfl info_lists
  simp [asAddr, h]
set_option maxHeartbeats 4000000 in
set_option maxRecDepth 100000 in
theorem rnew_bad {W : World} {n m : Int} (h : countsR n m = false) : Calls Try.prog 11 #[.int .i64 n, .int .i64 m] W (fun e w' => e = .returned (.tuple #[.agg #[.int .i64 0, .slice none 0 0, .slice none 0 0], .int .i64 7]) ∧ Below W.heap.size W w') := by
  have hc : ¬ (1 ≤ n ∧ n ≤ 2000 ∧ 1 ≤ m ∧ m ≤ 64) := of_decide_eq_false h
  have hz := Lib.hid (heap_alloc_new W (.cells #[.int .i64 0, .slice none 0 0, .slice none 0 0] 31))
  have HB := Lib.hid ((Below.refl W.heap.size W).alloc (Nat.le_refl _) (.cells #[.int .i64 0, .slice none 0 0, .slice none 0 0] 31))
  clear h
  by_cases h1 : n < 1
  · clear hc
    go_enter Try.func11, Try.ntmps11
    go_wp2_with fail
    try simp only [Exit.inBlock, Exit.then]
    refine bodyPost_ret (ret_lists rfl hz.out) rfl ?_
    exact ⟨rfl, HB.out⟩
  · by_cases h2 : (2000 : Int) < n
    · clear hc
      go_enter Try.func11, Try.ntmps11
      go_wp2_with fail
      try simp only [Exit.inBlock, Exit.then]
      refine bodyPost_ret (ret_lists rfl hz.out) rfl ?_
      exact ⟨rfl, HB.out⟩
    · by_cases h3 : m < 1
      · clear hc
        go_enter Try.func11, Try.ntmps11
        go_wp2_with fail
        try simp only [Exit.inBlock, Exit.then]
        refine bodyPost_ret (ret_lists rfl hz.out) rfl ?_
        exact ⟨rfl, HB.out⟩
      · have h4 : (64 : Int) < m := by omega
        clear hc
        go_enter Try.func11, Try.ntmps11
        go_wp2_with fail
        try simp only [Exit.inBlock, Exit.then]
        refine bodyPost_ret (ret_lists rfl hz.out) rfl ?_
        exact ⟨rfl, HB.out⟩
theorem grownBy_setCellAt (W : World) (b i : Nat) (v : Value) : W.grownBy (W.setCell ⟨b, i, none⟩ v) (some b) :=
  ⟨rfl, rfl, rfl, by simp [World.setCell], fun k _ hk => Below.heap_setCell _ _ _ k (fun e => hk (by rw [e]))⟩
theorem box3 {W : World} {B : Nat} {t : TypeId} (a b c : Value) {x0 x1 x2 : Value} (h : W.heap[B]? = some (.cells #[x0, x1, x2] t (0, 0))) :
    (((W.setCell ⟨B, 0, none⟩ a).setCell ⟨B, 1, none⟩ b).setCell ⟨B, 2, none⟩ c).heap[B]? = some (.cells #[a, b, c] t (0, 0)) := by
  have := heap_set (i := 2) c (heap_set (i := 1) b (heap_set (i := 0) a h))
  simpa using this
def nilC (k : Nat) : List Value := List.replicate k (.slice none 0 0)
theorem nilC_snoc (k : Nat) : nilC k ++ [.slice none 0 0] = nilC (k + 1) := by unfold nilC; rw [List.replicate_succ']
theorem nilC_len (k : Nat) : (nilC k).length = k := by simp [nilC]
set_option maxHeartbeats 4000000 in
set_option maxRecDepth 100000 in
theorem rnew_ok {W : World} {n m : Nat} (nn : 1 ≤ n ∧ n ≤ 2000) (mm : 1 ≤ m ∧ m ≤ 64) : Calls Try.prog 11 #[.int .i64 (n : Int), .int .i64 (m : Int)] W (RNewPost n m W) := by
  have i1 : ¬ (n : Int) < 1 := by omega
  have i2 : ¬ (2000 : Int) < n := by omega
  have i3 : ¬ (m : Int) < 1 := by omega
  have i4 : ¬ (64 : Int) < m := by omega
  have MK := fun V => made_int V n nn.2
  obtain ⟨i0, hi, hz0, hz1, hz2⟩ := info_partsB info_row
  have HI := Lib.hid hi; have HZ0 := Lib.hid hz0; have HZ1 := Lib.hid hz1; have HZ2 := Lib.hid hz2
  have HNN := Lib.hid nn; have HMM := Lib.hid mm
  clear hi hz0 hz1 hz2 nn mm
  go_enter Try.func11, Try.ntmps11
  go_wp2_with fail
  obtain ⟨z1, z2, z3, z4, z5⟩ := alloc3 W (.cells #[.int .i64 0, .slice none 0 0, .slice none 0 0] 31) (.cells (rowK n 0 (.int .i64 (-1)) (.int .i64 0)).toArray 3) (.cells #[.int .i64 (n : Int), .slice none 0 0, .slice (some ⟨W.heap.size + 1, 0, none⟩) n n] 31)
  generalize ((W.alloc (.cells #[.int .i64 0, .slice none 0 0, .slice none 0 0] 31)).alloc (.cells (rowK n 0 (.int .i64 (-1)) (.int .i64 0)).toArray 3)).alloc (.cells #[.int .i64 (n : Int), .slice none 0 0, .slice (some ⟨W.heap.size + 1, 0, none⟩) n n] 31) = W3 at z1 z2 z3 z4 z5 ⊢
  obtain ⟨Lb, hLb⟩ : ∃ Lb, Lb = W.heap.size + 1 + 1 := ⟨_, rfl⟩
  obtain ⟨gv, hgv⟩ : ∃ gv, gv = W.heap.size + 1 := ⟨_, rfl⟩
  obtain ⟨R, hR⟩ : ∃ R, R = W.heap.size := ⟨_, rfl⟩
  rw [show W.heap.size + 2 = W.heap.size + 1 + 1 from rfl, ← hLb, ← hgv] at z5
  rw [← hgv] at z4
  rw [← hR] at z3
  rw [← hLb, ← hgv, ← hR]
  obtain ⟨base, hbase⟩ : ∃ base, base = W3.heap.size := ⟨_, rfl⟩
  have b1 : R < base := by omega
  have b2 : gv < base := by omega
  have b3 : Lb < base := by omega
  have b4 : W.heap.size ≤ R ∧ W.heap.size ≤ gv ∧ W.heap.size ≤ Lb ∧ W.heap.size ≤ base := by omega
  have b5 : R ≠ Lb ∧ gv ≠ Lb ∧ R ≠ gv := by omega
  have HZV := Lib.hid (row_zero (n := n) (show RowK W3 gv n 0 from z4))
  have HZ1' := Lib.hid z1; have HZ3 := Lib.hid z3; have HZ5 := Lib.hid z5; have HBA := Lib.hid hbase
  have HB4 := Lib.hid b4; have HB5 := Lib.hid b5
  clear z1 z2 z3 z4 z5 hLb hgv hR hbase MK b4 b5 i1 i2 i3 i4
  go_loopg [7] m (fun n1 i wr => ∃ (k : Nat) (v : Value), k + n1 = m ∧ i = .int .i64 (k : Int) ∧ wr.heap[Lb]? = some (.cells #[.int .i64 (n : Int), v, .slice (some ⟨gv, 0, none⟩) n n] 31 (0, 0)) ∧ wr.ownsRow base 29 1 v k (nilC k) ∧ BelowS (fun q => q = Lb) base W3 wr)
  case atStart => exact ⟨0, _, by omega, by go_num, HZ5.out, World.ownsRow_nil _ _ _ _, BelowS.refl _ _ _⟩
  case round =>
    obtain ⟨k, v, hkm, rfl, hbox, hown, hb⟩ := hrel
    obtain ⟨wx, rfl⟩ : ∃ wx : World, wx = wr := ⟨_, rfl⟩
    obtain ⟨pv, cv, rfl⟩ := own_slice hown
    have hsz := hb.size
    by_cases hlt : k < m
    · obtain ⟨n', rfl⟩ : ∃ n', gk = n' + 1 := ⟨gk - 1, by omega⟩
      have i1 : (k : Int) < m := by omega
      have w1 : IntKind.i64.wrap ((k : Int) + 1) = (k : Int) + 1 := IntWalk.i64_in _ (by have := HMM.out; omega)
      have c0 := row_cell (i := 0) hbox rfl
      have c1 := row_cell (i := 1) hbox rfl
      have c2 := row_cell (i := 2) hbox rfl
      have hb1 : k + 1 ≤ maxLen := by unfold maxLen; have := HMM.out; omega
      have hb2 : (k + 1) * 24 ≤ 140737488355328 := by have := HMM.out; omega
      have H1 := Lib.hid hb1; have H2 := Lib.hid hb2
      have HOWN := Lib.hid hown; have HBOX := Lib.hid hbox; have HB := Lib.hid hb
      have HLE := Lib.hid (show base ≤ (wx.alloc (.cells #[.slice none 0 0] 29)).heap.size by rw [size1, HBA.out]; omega)
      have H1C := Lib.hid (show ∀ u ∈ [Value.slice none 0 0], u.oneCell' = true from fun u hu => by simp at hu; rw [hu]; rfl)
      clear hown hbox hb hb1 hb2
      go_wp2_with (at_builtin; refine wpList_append_own _ rfl _ _ 28 rfl base 29 i0 (.slice none 0 0) 1 24 Try.underlying28 HI.out HZ0.out HZ1.out HZ2.out rfl (by decide) _ _ _ rfl (HOWN.out.alloc _) ⟨wx.heap.size, 0, none⟩ 1 1 [.slice none 0 0] rfl rfl (cellB_one _ _ _ _ rfl) H1C.out H1.out H2.out HLE.out ?_; intro v4 w4 hown4 hgrow4 hnil4; obtain ⟨N4, hN4⟩ : ∃ N4, N4 = k + 1 := ⟨_, rfl⟩; rw [← hN4] at hown4; obtain ⟨p4, q4, rfl⟩ := own_slice hown4; have hb4 : w4.heap[Lb]? = some (.cells #[.int .i64 (n : Int), .slice pv k cv, .slice (some ⟨gv, 0, none⟩) n n] 31 (0, 0)) := (hgrow4.block Lb (by rw [size1]; have := HBA.out; omega) (fun e => by have := (HOWN.out.lt Lb e.symm).1; omega)).trans ((Below.heap_alloc wx _ Lb (by have := HBA.out; omega)).trans HBOX.out); have d0 := row_cell (i := 0) hb4 rfl; have d1 := row_cell (i := 1) hb4 rfl; have d2 := row_cell (i := 2) hb4 rfl; have f1 := row_free (i := 1) hb4; have HBX4 := Lib.hid (heap_set (i := 1) (.slice p4 N4 q4) hb4); have HOWN4 := Lib.hid hown4; have HG4 := Lib.hid hgrow4; have HN4 := Lib.hid hN4; clear hown4 hgrow4 hnil4 hb4 hN4)
      have hbw : BelowS (fun q => q = Lb) base W3 w4 := HB.out.trans ((BelowS.of ((Below.refl base wx).alloc (by have := HBA.out; omega) _)).trans ⟨HG4.out.os, HG4.out.tape, HG4.out.output, HG4.out.size, fun q hq _ => HG4.out.block q (by rw [size1]; have := HBA.out; omega) (fun e => by have := (HOWN.out.lt q e.symm).1; omega)⟩)
      have HBW := Lib.hid (hbw.cell (show (fun q => q = Lb) Lb from rfl) 1 (.slice p4 N4 q4))
      have hown5 : (w4.setCell ⟨Lb, 1, none⟩ (.slice p4 N4 q4)).ownsRow base 29 1 (.slice p4 N4 q4) N4 (nilC k ++ [.slice none 0 0]) := HOWN4.out.kept (grownBy_setCellAt w4 Lb 1 _) (.inr (fun e => by have := (HOWN4.out.lt Lb e).1; omega))
      have HOWN5 := Lib.hid hown5
      clear hbw hown5
      go_roundg n'
      case measure => omega
      case rel => exact ⟨k + 1, _, by omega, by go_num, HBX4.out, by rw [← nilC_snoc, ← HN4.out]; exact HOWN5.out, HBW.out⟩
    · obtain rfl : k = m := by omega
      have hk1 := HMM.out.1
      rcases hown.2 with ⟨h1, h0⟩ | ⟨g, c, cur, h1, hgb, hg, hc, _, hsz2, htk⟩
      · omega
      obtain ⟨rfl, rfl⟩ : pv = some ⟨g, 0, none⟩ ∧ cv = c := by simpa using h1
      have hrow : ∃ cur, wx.heap[g]? = some (.cells cur 29 (0, 0)) ∧ k ≤ cur.size ∧ ∀ j, j < k → cur[j]? = some (.slice none 0 0) := by
        refine ⟨cur, hg, by omega, fun j hj => ?_⟩
        have h2 : (cur.toList.take (k * 1))[j]? = (nilC k)[j]? := by rw [htk]
        rw [List.getElem?_take_of_lt (by omega), Array.getElem?_toList] at h2
        rw [h2]; unfold nilC; rw [List.getElem?_replicate, if_pos hj]
      have hRb := (hb.block R b1 HB5.out.1).trans HZ3.out
      have c0 := row_cell (i := 0) hbox rfl
      have c1 := row_cell (i := 1) hbox rfl
      have c2 := row_cell (i := 2) hbox rfl
      have d0 := row_cell (i := 0) hRb rfl; have d1 := row_cell (i := 1) hRb rfl; have d2 := row_cell (i := 2) hRb rfl
      have f0 := row_free (i := 0) hRb; have f1 := row_free (i := 1) hRb; have f2 := row_free (i := 2) hRb
      have HRES := Lib.hid (box3 (.int .i64 (n : Int)) (.slice (some ⟨g, 0, none⟩) k cv) (.slice (some ⟨gv, 0, none⟩) n n) hRb)
      have HROW := Lib.hid hrow; have HB := Lib.hid hb
      have hgR : g ≠ R := by omega
      have hgv2 : g ≠ gv := by omega
      have HN := Lib.hid (And.intro hgb (And.intro hgR hgv2))
      clear hown h1 hgb hg hc hsz2 htk hrow hRb hbox hb hgR hgv2 hsz
      go_wp2_with fail
      try simp only [Exit.inBlock, Exit.then]
      refine bodyPost_ret (ret_lists rfl HRES.out) rfl ?_
      have ho : ∀ q, q ≠ R → (((wx.setCell ⟨R, 0, none⟩ (.int .i64 (n : Int))).setCell ⟨R, 1, none⟩ (.slice (some ⟨g, 0, none⟩) k cv)).setCell ⟨R, 2, none⟩ (.slice (some ⟨gv, 0, none⟩) n n)).heap[q]? = wx.heap[q]? := fun q e =>
        (Below.heap_setCell _ ⟨R, 2, none⟩ _ q e).trans ((Below.heap_setCell _ ⟨R, 1, none⟩ _ q e).trans (Below.heap_setCell _ ⟨R, 0, none⟩ _ q e))
      obtain ⟨x1, x2, x3⟩ := HN.out
      obtain ⟨y1, y2, y3, y4⟩ := HB4.out
      obtain ⟨v1, v2, v3⟩ := HB5.out
      refine ⟨g, gv, cv, n, rfl, ?_, ?_, by omega, y2, x3, ?_⟩
      · obtain ⟨cur, r1, r2, r3⟩ := HROW.out
        exact ⟨cur, (ho g x2).trans r1, r2, r3⟩
      · exact HZV.out.block ((ho gv (fun e => v3 e.symm)).trans (HB.out.block gv b2 v2))
      · have hBW : Below W.heap.size W3 wx := ⟨HB.out.os, HB.out.tape, HB.out.output, HB.out.size, fun q hq => HB.out.block q (by omega) (by omega)⟩
        exact ((((HZ1'.out.trans hBW).setCell (p := ⟨R, 0, none⟩) y1 _).setCell (p := ⟨R, 1, none⟩) y1 _).setCell (p := ⟨R, 2, none⟩) y1 _)
end Go.Proofs.Ytmelcohfjonjfaa
