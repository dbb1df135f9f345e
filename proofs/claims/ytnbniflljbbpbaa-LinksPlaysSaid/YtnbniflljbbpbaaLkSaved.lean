/- links: Save. -/
import Derived.Test.YtnbniflljbbpbaaLkNew
namespace Go.Proofs.Ytnbniflljbbpbaa
open Go.RowKit

/-- What Save returns of a pool: new rows that hold its values and links. -/
def SavePost (n m : Nat) (v : Nat → Int) (of : Nat → List Nat) (W : World) (e : Ending) (W' : World) : Prop := ∃ D F, e = .returned (stV n m D) ∧ NewRows W W' n m D v F ∧ Rep n m of F
theorem PoolAt.lt {W : World} {B n m : Nat} {D : LkB} {v : Nat → Int} {F : LkF} (h : PoolAt W B n m D v F) : ∀ k, k = B ∨ D.S k → k < W.heap.size := by
  rintro k (e | e | e | e | e | e | e)
  · rw [e]; exact (Array.getElem?_eq_some_iff.1 h.box).1
  · rw [e]; exact h.rv.lt
  · rw [e]; exact h.rl.lt
  · rw [e]; exact h.rn.lt
  · rw [e]; exact h.rp.lt
  · rw [e]; exact h.rf.lt
  · rw [e]; exact h.ra.lt
theorem PoolAt.below {W W' : World} {B n m : Nat} {D : LkB} {v : Nat → Int} {F : LkF} (h : PoolAt W B n m D v F) (hb : Below W.heap.size W W') : PoolAt W' B n m D v F :=
  h.block (fun k hk => hb.block k (h.lt k hk))
theorem PoolS.below {W W' : World} {B n m : Nat} {D : LkB} {v : Nat → Int} {of : Nat → List Nat} (h : PoolS W B n m D v of) (hb : Below W.heap.size W W') : PoolS W' B n m D v of := by
  obtain ⟨F, p, r⟩ := h
  exact ⟨F, p.below hb, r⟩
/-- The rows in new memory, the result's box being written behind them. -/
theorem save_fin {W V z z' : World} {n m : Nat} {D : LkB} {v : Nat → Int} {F : LkF} (h : NewRows V z n m D v F) (h0 : Below W.heap.size W V) (hK : W.heap.size < V.heap.size) (hz : ∀ k, k ≠ W.heap.size → z'.heap[k]? = z.heap[k]?) (hB : Below W.heap.size z z') : NewRows W z' n m D v F := by
  obtain ⟨r, o, hge, hne, hk⟩ := h
  exact ⟨⟨r.rv.block (hz _ (by omega)), r.rl.block (hz _ (by omega)), r.rn.block (hz _ (by omega)), r.rp.block (hz _ (by omega)), r.rf.block (hz _ (by omega)), r.ra.block (hz _ (by omega))⟩, h0.trans ((o.mono (by omega)).trans hB), by omega, hne, hk⟩
set_option maxHeartbeats 4000000 in
set_option maxRecDepth 100000 in
theorem save_any {W : World} {B n m : Nat} {D : LkB} {v : Nat → Int} {of : Nat → List Nat} (h : PoolS W B n m D v of) :
    Calls Try.prog 16 #[.pointer (some ⟨B, 0, none⟩)] W (SavePost n m v of W) := by
  obtain ⟨F, h, hr⟩ := h
  obtain ⟨A, hA⟩ : ∃ A : Obj, A = (.cells #[.slice none 0 0, .slice none 0 0, .slice none 0 0, .slice none 0 0, .slice none 0 0, .slice none 0 0] 39) := ⟨_, rfl⟩
  have hsz : (W.alloc A).heap.size = W.heap.size + 1 := Array.size_push ..
  have hBlt : B < W.heap.size := (Array.getElem?_eq_some_iff.1 h.box).1
  have h1 : PoolAt (W.alloc A) B n m D v F := h.below ((Below.refl _ W).alloc (Nat.le_refl _) A)
  obtain ⟨c0, c1, c2, c3, c4, c5, c6⟩ := h1.cells
  have CM := Lib.hid (isMade_any h1)
  have CC := Lib.hid (copy_any (D := D) ⟨h1.rv, h1.rl, h1.rn, h1.rp, h1.rf, h1.ra⟩ h1.nn h1.mm)
  have HE := Lib.hid (heap_alloc_new W A)
  have HSZ := Lib.hid hsz
  have HR := Lib.hid hr
  clear h h1 hr hsz hBlt
  unfold stV slc at CC
  subst hA
  go_enter Try.func16, Try.ntmps16
  go_wp2_with fail
  refine CM.out.mono ?_
  rintro e w1 ⟨rfl, rfl⟩
  go_wp2_with fail
  refine CC.out.mono ?_
  rintro e z ⟨D', rfl, P⟩
  have HV := Lib.hid ((Below.refl W.heap.size W).alloc (Nat.le_refl _) (.cells #[.slice none 0 0, .slice none 0 0, .slice none 0 0, .slice none 0 0, .slice none 0 0, .slice none 0 0] 39))
  have hE := (P.old.block W.heap.size (by rw [HSZ.out]; omega)).trans HE.out
  have HP := Lib.hid P
  clear P CC CM
  have b0 := row_cell (i := 0) hE rfl; have b1 := row_cell (i := 1) hE rfl; have b2 := row_cell (i := 2) hE rfl; have b3 := row_cell (i := 3) hE rfl; have b4 := row_cell (i := 4) hE rfl; have b5 := row_cell (i := 5) hE rfl
  have f0 := row_free (i := 0) hE; have f1 := row_free (i := 1) hE; have f2 := row_free (i := 2) hE; have f3 := row_free (i := 3) hE; have f4 := row_free (i := 4) hE; have f5 := row_free (i := 5) hE
  have HEE := Lib.hid hE
  clear hE
  unfold stV slc
  go_wp2_with fail
  have hB := Lib.hid ((((((((Below.refl W.heap.size z).setCell (p := ⟨W.heap.size, 0, none⟩) (by simp) (.slice (some ⟨D'.v, 0, none⟩) n D'.cv)).setCell (p := ⟨W.heap.size, 1, none⟩) (by simp) (.slice (some ⟨D'.l, 0, none⟩) n D'.cl)).setCell (p := ⟨W.heap.size, 2, none⟩) (by simp) (.slice (some ⟨D'.n, 0, none⟩) n D'.cn)).setCell (p := ⟨W.heap.size, 3, none⟩) (by simp) (.slice (some ⟨D'.p, 0, none⟩) n D'.cp)).setCell (p := ⟨W.heap.size, 4, none⟩) (by simp) (.slice (some ⟨D'.f, 0, none⟩) m D'.cf)).setCell (p := ⟨W.heap.size, 5, none⟩) (by simp) (.slice (some ⟨D'.a, 0, none⟩) m D'.ca)))
  have hz := Lib.hid (fun k (hk : k ≠ W.heap.size) => (Below.heap_setCell ((((((z.setCell ⟨W.heap.size, 0, none⟩ (.slice (some ⟨D'.v, 0, none⟩) n D'.cv)).setCell ⟨W.heap.size, 1, none⟩ (.slice (some ⟨D'.l, 0, none⟩) n D'.cl)).setCell ⟨W.heap.size, 2, none⟩ (.slice (some ⟨D'.n, 0, none⟩) n D'.cn)).setCell ⟨W.heap.size, 3, none⟩ (.slice (some ⟨D'.p, 0, none⟩) n D'.cp)).setCell ⟨W.heap.size, 4, none⟩ (.slice (some ⟨D'.f, 0, none⟩) m D'.cf))) ⟨W.heap.size, 5, none⟩ (.slice (some ⟨D'.a, 0, none⟩) m D'.ca) k hk).trans ((Below.heap_setCell _ ⟨W.heap.size, 4, none⟩ _ k hk).trans ((Below.heap_setCell _ ⟨W.heap.size, 3, none⟩ _ k hk).trans ((Below.heap_setCell _ ⟨W.heap.size, 2, none⟩ _ k hk).trans ((Below.heap_setCell _ ⟨W.heap.size, 1, none⟩ _ k hk).trans (Below.heap_setCell _ ⟨W.heap.size, 0, none⟩ _ k hk))))))
  have hbox := box6 (.slice (some ⟨D'.v, 0, none⟩) n D'.cv) (.slice (some ⟨D'.l, 0, none⟩) n D'.cl) (.slice (some ⟨D'.n, 0, none⟩) n D'.cn) (.slice (some ⟨D'.p, 0, none⟩) n D'.cp) (.slice (some ⟨D'.f, 0, none⟩) m D'.cf) (.slice (some ⟨D'.a, 0, none⟩) m D'.ca) HEE.out
  try simp only [Exit.inBlock, Exit.then]
  refine bodyPost_ret (results_cell_row rfl _ _ W.heap.size _ _ _ _ rfl hbox Try.underlying39 rfl info_state) rfl ?_
  exact ⟨D', F, rfl, save_fin HP.out HV.out (by rw [HSZ.out]; omega) hz.out hB.out, HR.out⟩
end Go.Proofs.Ytnbniflljbbpbaa
