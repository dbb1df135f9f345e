/- links: New, Save. links: Save. -/
import Derived.Test.YtmelcohfjonjfaaLkBuild
import Derived.Test.YtmelcohfjonjfaaLkCounts
import Derived.Test.YtmelcohfjonjfaaLkAsk
namespace Go.Proofs.Ytmelcohfjonjfaa
open Go.RowKit

def F0 : LkF := ⟨fun _ => -1, fun _ => -1, fun _ => -1, fun _ => -1, fun _ => -1⟩
theorem rep_zero (n m : Nat) : Rep n m (fun _ => []) F0 :=
  ⟨fun _ _ => List.nodup_nil, (fun _ _ x h => by cases h), (fun _ _ _ _ _ x h => by cases h), fun _ _ => ⟨rfl, rfl⟩, (fun _ _ x h => by cases h), fun _ _ _ => ⟨rfl, rfl, rfl⟩⟩
theorem freeV_none (F : LkF) (n : Nat) : freeV (fun _ => 0) F n = fun _ => 0 := by
  funext j; unfold freeV
  by_cases h : j < n ∧ F.list j = -1
  · rw [if_pos h]
  · rw [if_neg h]
/-- A pool in new memory, as values and lists. -/
def NewS (W W' : World) (B n m : Nat) (D : LkB) (v : Nat → Int) (of : Nat → List Nat) : Prop := ∃ F, NewPool W W' B n m D v F ∧ Rep n m of F
def NewPost (n m : Nat) (v : Nat → Int) (of : Nat → List Nat) (W : World) (e : Ending) (W' : World) : Prop := ∃ B D, e = .returned (.tuple #[.pointer (some ⟨B, 0, none⟩), .int .i64 0]) ∧ NewS W W' B n m D v of
theorem row_zero {W : World} {g n : Nat} (h : RowK W g n 0) : RowF W g n (fun _ => 0) := by
  refine ⟨_, h, by simp [rowK_len], fun j hj => ?_⟩
  rw [List.getElem?_toArray]
  unfold rowK
  simp [hj]
set_option maxHeartbeats 4000000 in
set_option maxRecDepth 100000 in
theorem New_bad {W : World} {n m : Int} (h : countsR n m = false) : Calls Try.prog 10 #[.int .i64 n, .int .i64 m] W (OkEq (.tuple #[.pointer none, .int .i64 7]) W) := by
  have C := counts_any W n m
  rw [h] at C
  have C := Lib.hid C
  clear h
  go_enter Try.func10, Try.ntmps10
  go_wp2_with fail
  refine C.out.mono ?_
  rintro e w1 ⟨rfl, rfl⟩
  go_wp2_with fail
  go_ret2
  exact ⟨rfl, rfl⟩
theorem countsR_nat {n m : Int} (h : countsR n m = true) : ∃ a b : Nat, n = (a : Int) ∧ m = (b : Int) ∧ (1 ≤ a ∧ a ≤ 2000) ∧ (1 ≤ b ∧ b ≤ 64) := by
  unfold countsR at h
  have h := of_decide_eq_true h
  exact ⟨n.toNat, m.toNat, by omega, by omega, by omega, by omega⟩
theorem row_of_new {V z : World} {g n : Nat} {f : Nat → Int} {c : Nat} (h : RowF V g n f) (hb : Below c V z) (hg : g < c) : RowF z g n f := h.block (hb.block g hg)
theorem new_rows {W z1 z2 : World} {A1 A2 : Obj} {n m g1 g2 c1 c2 : Nat} (h1 : (W.alloc A1).heap.size ≤ g1) (r1 : RowF z1 g1 n fun _ => -1) (b1 : Below (W.alloc A1).heap.size (W.alloc A1) z1)
    (h2 : (z1.alloc A2).heap.size ≤ g2) (r2 : RowF z2 g2 m fun _ => -1) (b2 : Below (z1.alloc A2).heap.size (z1.alloc A2) z2) :
    RowsAt (z2.alloc (.cells (rowK n 0 (.int .i64 (-1)) (.int .i64 0)).toArray 3)) n m ⟨z2.heap.size, g1, g1, g1, g2, g2, n, c1, c1, c1, c2, c2⟩ (fun _ => 0) F0 ∧ Below W.heap.size W (z2.alloc (.cells (rowK n 0 (.int .i64 (-1)) (.int .i64 0)).toArray 3)) := by
  have s1 : (W.alloc A1).heap.size = W.heap.size + 1 := Array.size_push ..
  have s2 : (z1.alloc A2).heap.size = z1.heap.size + 1 := Array.size_push ..
  have t1 := b1.size; have t2 := b2.size
  have l1 := r1.lt; have l2 := r2.lt
  have B1 : Below W.heap.size W z1 := ((Below.refl _ W).alloc (Nat.le_refl _) A1).trans (b1.mono (by omega))
  have B2 : Below z1.heap.size z1 z2 := ((Below.refl _ z1).alloc (Nat.le_refl _) A2).trans (b2.mono (by omega))
  have B3 : Below z2.heap.size z2 (z2.alloc (.cells (rowK n 0 (.int .i64 (-1)) (.int .i64 0)).toArray 3)) := (Below.refl _ z2).alloc (Nat.le_refl _) _
  have q1 : RowF (z2.alloc (.cells (rowK n 0 (.int .i64 (-1)) (.int .i64 0)).toArray 3)) g1 n fun _ => -1 := (r1.below B2 l1).below B3 (by omega)
  have q2 : RowF (z2.alloc (.cells (rowK n 0 (.int .i64 (-1)) (.int .i64 0)).toArray 3)) g2 m fun _ => -1 := r2.below B3 l2
  have q0 : RowF (z2.alloc (.cells (rowK n 0 (.int .i64 (-1)) (.int .i64 0)).toArray 3)) z2.heap.size n fun _ => 0 := row_zero (heap_alloc_new z2 _)
  exact ⟨⟨q0, q1, q1, q1, q2, q2⟩, B1.trans ((B2.mono (by omega)).trans (B3.mono (by omega)))⟩
set_option maxHeartbeats 4000000 in
set_option maxRecDepth 100000 in
theorem New_ok {W : World} {n m : Nat} (nn : 1 ≤ n ∧ n ≤ 2000) (mm : 1 ≤ m ∧ m ≤ 64) : Calls Try.prog 10 #[.int .i64 (n : Int), .int .i64 (m : Int)] W (NewPost n m (fun _ => 0) (fun _ => []) W) := by
  have C := counts_any W (n : Int) (m : Int)
  rw [show countsR (n : Int) (m : Int) = true from decide_eq_true (by omega)] at C
  have C := Lib.hid C
  have CR1 := Lib.hid (fun (V : World) (b : Nat) (hb : V.cell? ⟨b, 0, none⟩ = some (.int .i64 (-1))) => repeat_any (c := 1) hb nn.1 nn.2)
  have CR2 := Lib.hid (fun (V : World) (b : Nat) (hb : V.cell? ⟨b, 0, none⟩ = some (.int .i64 (-1))) => repeat_any (c := 1) hb mm.1 (Nat.le_trans mm.2 (by decide)))
  have CB := Lib.hid (fun (V : World) (D : LkB) (h : RowsAt V n m D (fun _ => 0) F0) => build_any h nn mm)
  have MK := Lib.hid (fun V => made_int V n nn.2)
  clear nn mm
  go_enter Try.func10, Try.ntmps10
  go_wp2_with fail
  refine C.out.mono ?_
  rintro e w1 ⟨rfl, rfl⟩
  go_wp2_with fail
  refine (CR1.out _ w1.heap.size (row_cell (heap_alloc_new w1 _) rfl)).mono ?_
  rintro e z1 ⟨g1, c1, rfl, hc1, hg1, hr1, hb1⟩
  have H1 := Lib.hid (And.intro hg1 (And.intro hr1 hb1))
  clear hc1 hg1 hr1 hb1
  go_wp2_with fail
  refine (CR2.out _ z1.heap.size (row_cell (heap_alloc_new z1 _) rfl)).mono ?_
  rintro e z2 ⟨g2, c2, rfl, hc2, hg2, hr2, hb2⟩
  have H2 := Lib.hid (And.intro hg2 (And.intro hr2 hb2))
  have mk := MK.out z2
  clear hc2 hg2 hr2 hb2
  go_wp2_with fail
  have RB := new_rows (n := n) (m := m) (c1 := c1) (c2 := c2) H1.out.1 H1.out.2.1 H1.out.2.2 H2.out.1 H2.out.2.1 H2.out.2.2
  refine (CB.out _ ⟨z2.heap.size, g1, g1, g1, g2, g2, n, c1, c1, c1, c2, c2⟩ RB.1).mono ?_
  rintro e z3 ⟨B, D, rfl, P⟩
  have HP := Lib.hid (new_less P RB.2)
  clear P RB mk MK CB CR1 CR2 C
  go_wp2_with fail
  go_ret2
  exact ⟨B, D, rfl, F0, by have := HP.out; rw [freeV_none] at this; exact this, rep_zero n m⟩
/-- What New returns. -/
def NewR (n m : Int) (W : World) (e : Ending) (W' : World) : Prop :=
  (countsR n m = false ∧ e = .returned (.tuple #[.pointer none, .int .i64 7]) ∧ W' = W) ∨
  (∃ a b : Nat, n = (a : Int) ∧ m = (b : Int) ∧ (1 ≤ a ∧ a ≤ 2000) ∧ (1 ≤ b ∧ b ≤ 64) ∧ countsR n m = true ∧ NewPost a b (fun _ => 0) (fun _ => []) W e W')
theorem New_any (W : World) (n m : Int) : Calls Try.prog 10 #[.int .i64 n, .int .i64 m] W (NewR n m W) := by
  cases h : countsR n m with
  | false => exact (New_bad h).mono (fun e w' hw => .inl ⟨h, hw.1, hw.2⟩)
  | true =>
    obtain ⟨a, b, rfl, rfl, ha, hb⟩ := countsR_nat h
    exact (New_ok ha hb).mono (fun e w' hw => .inr ⟨a, b, rfl, rfl, ha, hb, h, hw⟩)
end Go.Proofs.Ytmelcohfjonjfaa
namespace Go.Proofs.Ytmelcohfjonjfaa
open Go.RowKit

/-- What Save returns of a pool: new rows that hold its values and links. -/
def SavePost (n m : Nat) (v : Nat → Int) (of : Nat → List Nat) (W : World) (e : Ending) (W' : World) : Prop := ∃ D F, e = .returned (stV n m D) ∧ NewRows W W' n m D v F ∧ Rep n m of F
theorem PoolAt.lt {W : World} {B n m : Nat} {D : LkB} {v : Nat → Int} {F : LkF} (h : PoolAt W B n m D v F) : ∀ k, k = B ∨ D.S k → k < W.heap.size := by
  rintro k (e | e | e | e | e | e | e)
  · rw [e]; exact (Array.getElem?_eq_some_iff.1 h.box).1
  · rw [e]; exact h.rv.lt
  · rw [e]; exact h.rl.lt
  · rw [e]; exact h.rn.lt
  · rw [e]; exact h.rp.lt
  · rw [e]; exact h.rf.lt
  · rw [e]; exact h.ra.lt
theorem PoolAt.below {W W' : World} {B n m : Nat} {D : LkB} {v : Nat → Int} {F : LkF} (h : PoolAt W B n m D v F) (hb : Below W.heap.size W W') : PoolAt W' B n m D v F :=
  h.block (fun k hk => hb.block k (h.lt k hk))
theorem PoolS.below {W W' : World} {B n m : Nat} {D : LkB} {v : Nat → Int} {of : Nat → List Nat} (h : PoolS W B n m D v of) (hb : Below W.heap.size W W') : PoolS W' B n m D v of := by
  obtain ⟨F, p, r⟩ := h
  exact ⟨F, p.below hb, r⟩
/-- The rows in new memory, the result's box being written behind them. -/
theorem save_fin {W V z z' : World} {n m : Nat} {D : LkB} {v : Nat → Int} {F : LkF} (h : NewRows V z n m D v F) (h0 : Below W.heap.size W V) (hK : W.heap.size < V.heap.size) (hz : ∀ k, k ≠ W.heap.size → z'.heap[k]? = z.heap[k]?) (hB : Below W.heap.size z z') : NewRows W z' n m D v F := by
  obtain ⟨r, o, hge, hne, hk⟩ := h
  exact ⟨⟨r.rv.block (hz _ (by omega)), r.rl.block (hz _ (by omega)), r.rn.block (hz _ (by omega)), r.rp.block (hz _ (by omega)), r.rf.block (hz _ (by omega)), r.ra.block (hz _ (by omega))⟩, h0.trans ((o.mono (by omega)).trans hB), by omega, hne, hk⟩
set_option maxHeartbeats 4000000 in
set_option maxRecDepth 100000 in
theorem save_any {W : World} {B n m : Nat} {D : LkB} {v : Nat → Int} {of : Nat → List Nat} (h : PoolS W B n m D v of) :
    Calls Try.prog 16 #[.pointer (some ⟨B, 0, none⟩)] W (SavePost n m v of W) := by
  obtain ⟨F, h, hr⟩ := h
  obtain ⟨A, hA⟩ : ∃ A : Obj, A = (.cells #[.slice none 0 0, .slice none 0 0, .slice none 0 0, .slice none 0 0, .slice none 0 0, .slice none 0 0] 39) := ⟨_, rfl⟩
  have hsz : (W.alloc A).heap.size = W.heap.size + 1 := Array.size_push ..
  have hBlt : B < W.heap.size := (Array.getElem?_eq_some_iff.1 h.box).1
  have h1 : PoolAt (W.alloc A) B n m D v F := h.below ((Below.refl _ W).alloc (Nat.le_refl _) A)
  obtain ⟨c0, c1, c2, c3, c4, c5, c6⟩ := h1.cells
  have CM := Lib.hid (isMade_any h1)
  have CC := Lib.hid (copy_any (D := D) ⟨h1.rv, h1.rl, h1.rn, h1.rp, h1.rf, h1.ra⟩ h1.nn h1.mm)
  have HE := Lib.hid (heap_alloc_new W A)
  have HSZ := Lib.hid hsz
  have HR := Lib.hid hr
  clear h h1 hr hsz hBlt
  unfold stV slc at CC
  subst hA
  go_enter Try.func16, Try.ntmps16
  go_wp2_with fail
  refine CM.out.mono ?_
  rintro e w1 ⟨rfl, rfl⟩
  go_wp2_with fail
  refine CC.out.mono ?_
  rintro e z ⟨D', rfl, P⟩
  have HV := Lib.hid ((Below.refl W.heap.size W).alloc (Nat.le_refl _) (.cells #[.slice none 0 0, .slice none 0 0, .slice none 0 0, .slice none 0 0, .slice none 0 0, .slice none 0 0] 39))
  have hE := (P.old.block W.heap.size (by rw [HSZ.out]; omega)).trans HE.out
  have HP := Lib.hid P
  clear P CC CM
  have b0 := row_cell (i := 0) hE rfl; have b1 := row_cell (i := 1) hE rfl; have b2 := row_cell (i := 2) hE rfl; have b3 := row_cell (i := 3) hE rfl; have b4 := row_cell (i := 4) hE rfl; have b5 := row_cell (i := 5) hE rfl
  have f0 := row_free (i := 0) hE; have f1 := row_free (i := 1) hE; have f2 := row_free (i := 2) hE; have f3 := row_free (i := 3) hE; have f4 := row_free (i := 4) hE; have f5 := row_free (i := 5) hE
  have HEE := Lib.hid hE
  clear hE
  unfold stV slc
  go_wp2_with fail
  have hB := Lib.hid ((((((((Below.refl W.heap.size z).setCell (p := ⟨W.heap.size, 0, none⟩) (by simp) (.slice (some ⟨D'.v, 0, none⟩) n D'.cv)).setCell (p := ⟨W.heap.size, 1, none⟩) (by simp) (.slice (some ⟨D'.l, 0, none⟩) n D'.cl)).setCell (p := ⟨W.heap.size, 2, none⟩) (by simp) (.slice (some ⟨D'.n, 0, none⟩) n D'.cn)).setCell (p := ⟨W.heap.size, 3, none⟩) (by simp) (.slice (some ⟨D'.p, 0, none⟩) n D'.cp)).setCell (p := ⟨W.heap.size, 4, none⟩) (by simp) (.slice (some ⟨D'.f, 0, none⟩) m D'.cf)).setCell (p := ⟨W.heap.size, 5, none⟩) (by simp) (.slice (some ⟨D'.a, 0, none⟩) m D'.ca)))
  have hz := Lib.hid (fun k (hk : k ≠ W.heap.size) => (Below.heap_setCell ((((((z.setCell ⟨W.heap.size, 0, none⟩ (.slice (some ⟨D'.v, 0, none⟩) n D'.cv)).setCell ⟨W.heap.size, 1, none⟩ (.slice (some ⟨D'.l, 0, none⟩) n D'.cl)).setCell ⟨W.heap.size, 2, none⟩ (.slice (some ⟨D'.n, 0, none⟩) n D'.cn)).setCell ⟨W.heap.size, 3, none⟩ (.slice (some ⟨D'.p, 0, none⟩) n D'.cp)).setCell ⟨W.heap.size, 4, none⟩ (.slice (some ⟨D'.f, 0, none⟩) m D'.cf))) ⟨W.heap.size, 5, none⟩ (.slice (some ⟨D'.a, 0, none⟩) m D'.ca) k hk).trans ((Below.heap_setCell _ ⟨W.heap.size, 4, none⟩ _ k hk).trans ((Below.heap_setCell _ ⟨W.heap.size, 3, none⟩ _ k hk).trans ((Below.heap_setCell _ ⟨W.heap.size, 2, none⟩ _ k hk).trans ((Below.heap_setCell _ ⟨W.heap.size, 1, none⟩ _ k hk).trans (Below.heap_setCell _ ⟨W.heap.size, 0, none⟩ _ k hk))))))
  have hbox := box6 (.slice (some ⟨D'.v, 0, none⟩) n D'.cv) (.slice (some ⟨D'.l, 0, none⟩) n D'.cl) (.slice (some ⟨D'.n, 0, none⟩) n D'.cn) (.slice (some ⟨D'.p, 0, none⟩) n D'.cp) (.slice (some ⟨D'.f, 0, none⟩) m D'.cf) (.slice (some ⟨D'.a, 0, none⟩) m D'.ca) HEE.out
  try simp only [Exit.inBlock, Exit.then]
  refine bodyPost_ret (results_cell_row rfl _ _ W.heap.size _ _ _ _ rfl hbox Try.underlying39 rfl info_state) rfl ?_
  exact ⟨D', F, rfl, save_fin HP.out HV.out (by rw [HSZ.out]; omega) hz.out hB.out, HR.out⟩
end Go.Proofs.Ytmelcohfjonjfaa
