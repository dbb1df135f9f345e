/- links: what clone (the copy of a state) wants; its walk is a draft (wip/draft/LkSave_copy.txt). -/
import Derived.Test.YtnbniflljbbpbaaLkClone
namespace Go.Proofs.Ytnbniflljbbpbaa
open Go.RowKit

/-- A state's six rows. -/
structure RowsAt (W : World) (n m : Nat) (D : LkB) (v : Nat → Int) (F : LkF) : Prop where
  rv : RowF W D.v n v
  rl : RowF W D.l n F.list
  rn : RowF W D.n n F.next
  rp : RowF W D.p n F.prev
  rf : RowF W D.f m F.first
  ra : RowF W D.a m F.last
theorem RowF.lt {W : World} {g k : Nat} {f : Nat → Int} (h : RowF W g k f) : g < W.heap.size := by obtain ⟨cur, h1, _⟩ := h; exact (Array.getElem?_eq_some_iff.1 h1).1
theorem RowF.below {W W' : World} {g k D : Nat} {f : Nat → Int} (h : RowF W g k f) (hb : Below D W W') (hd : g < D) : RowF W' g k f := h.block (hb.block g hd)
def stV (n m : Nat) (D : LkB) : Value := .agg #[slc D.v n D.cv, slc D.l n D.cl, slc D.n n D.cn, slc D.p n D.cp, slc D.f m D.cf, slc D.a m D.ca]
/-- New rows, each in a block of its own. -/
structure NewRows (W W' : World) (n m : Nat) (D : LkB) (v : Nat → Int) (F : LkF) : Prop where
  rows : RowsAt W' n m D v F
  old : Below W.heap.size W W'
  ge : W.heap.size ≤ D.v
  ne : D.v < D.l ∧ D.l < D.n ∧ D.n < D.p ∧ D.p < D.f ∧ D.f < D.a
  kv : n ≤ D.cv
def CopyPost (n m : Nat) (v : Nat → Int) (F : LkF) (W : World) (e : Ending) (W' : World) : Prop := ∃ D, e = .returned (stV n m D) ∧ NewRows W W' n m D v F
def CopyS (n m : Nat) (D : LkB) (K : Nat) (W : World) : Prop := W.cell? ⟨K, 0, none⟩ = some (.slice (some ⟨D.v, 0, none⟩) n D.cv) ∧ W.cell? ⟨K, 1, none⟩ = some (.slice (some ⟨D.l, 0, none⟩) n D.cl) ∧ W.cell? ⟨K, 2, none⟩ = some (.slice (some ⟨D.n, 0, none⟩) n D.cn) ∧ W.cell? ⟨K, 3, none⟩ = some (.slice (some ⟨D.p, 0, none⟩) n D.cp) ∧ W.cell? ⟨K, 4, none⟩ = some (.slice (some ⟨D.f, 0, none⟩) m D.cf) ∧ W.cell? ⟨K, 5, none⟩ = some (.slice (some ⟨D.a, 0, none⟩) m D.ca) ∧ W.cell? ⟨K + 1, 0, none⟩ = some (.slice none 0 0) ∧ W.frozen? ⟨K + 1, 0, none⟩ = false ∧ W.cell? ⟨K + 1, 1, none⟩ = some (.slice none 0 0) ∧ W.frozen? ⟨K + 1, 1, none⟩ = false ∧ W.cell? ⟨K + 1, 2, none⟩ = some (.slice none 0 0) ∧ W.frozen? ⟨K + 1, 2, none⟩ = false ∧ W.cell? ⟨K + 1, 3, none⟩ = some (.slice none 0 0) ∧ W.frozen? ⟨K + 1, 3, none⟩ = false ∧ W.cell? ⟨K + 1, 4, none⟩ = some (.slice none 0 0) ∧ W.frozen? ⟨K + 1, 4, none⟩ = false ∧ W.cell? ⟨K + 1, 5, none⟩ = some (.slice none 0 0) ∧ W.frozen? ⟨K + 1, 5, none⟩ = false
theorem keepC {n m : Nat} {D : LkB} {K : Nat} {W W' : World} (h : CopyS n m D K W) (hb : Below W.heap.size W W') : CopyS n m D K W' := by
  unfold CopyS at h ⊢
  obtain ⟨a0, a1, a2, a3, a4, a5, b0, c0, b1, c1, b2, c2, b3, c3, b4, c4, b5, c5⟩ := h
  have h0 : K < W.heap.size := World.block_lt_of_cell? _ _ a0
  have h1 : K + 1 < W.heap.size := World.block_lt_of_cell? _ _ b0
  have e : ∀ j, W'.cell? ⟨K, j, none⟩ = W.cell? ⟨K, j, none⟩ := fun j => hb.cell h0
  have e1 : ∀ j, W'.cell? ⟨K + 1, j, none⟩ = W.cell? ⟨K + 1, j, none⟩ := fun j => hb.cell h1
  have e2 : ∀ j, W'.frozen? ⟨K + 1, j, none⟩ = W.frozen? ⟨K + 1, j, none⟩ := fun j => by unfold World.frozen?; rw [hb.block _ h1]
  simp only [e, e1, e2]
  exact ⟨a0, a1, a2, a3, a4, a5, b0, c0, b1, c1, b2, c2, b3, c3, b4, c4, b5, c5⟩
theorem copy_s0 (n m : Nat) (D : LkB) (W : World) : CopyS n m D W.heap.size ((W.alloc (.cells #[.slice (some ⟨D.v, 0, none⟩) n D.cv, .slice (some ⟨D.l, 0, none⟩) n D.cl, .slice (some ⟨D.n, 0, none⟩) n D.cn, .slice (some ⟨D.p, 0, none⟩) n D.cp, .slice (some ⟨D.f, 0, none⟩) m D.cf, .slice (some ⟨D.a, 0, none⟩) m D.ca] 39)).alloc (.cells #[.slice none 0 0, .slice none 0 0, .slice none 0 0, .slice none 0 0, .slice none 0 0, .slice none 0 0] 39)).drew := by
  obtain ⟨A, hA⟩ : ∃ A : Obj, A = (.cells #[.slice (some ⟨D.v, 0, none⟩) n D.cv, .slice (some ⟨D.l, 0, none⟩) n D.cl, .slice (some ⟨D.n, 0, none⟩) n D.cn, .slice (some ⟨D.p, 0, none⟩) n D.cp, .slice (some ⟨D.f, 0, none⟩) m D.cf, .slice (some ⟨D.a, 0, none⟩) m D.ca] 39) := ⟨_, rfl⟩
  obtain ⟨B, hB⟩ : ∃ B : Obj, B = (.cells #[.slice none 0 0, .slice none 0 0, .slice none 0 0, .slice none 0 0, .slice none 0 0, .slice none 0 0] 39) := ⟨_, rfl⟩
  rw [← hA, ← hB]
  have z : (W.alloc A).heap.size = W.heap.size + 1 := Array.size_push ..
  have e0 : ((W.alloc A).alloc B).drew.heap[W.heap.size]? = some A :=
    (((Below.refl (W.heap.size + 1) (W.alloc A)).alloc (by omega) B).block W.heap.size (by omega)).trans (heap_alloc_new W A)
  have e1 : ((W.alloc A).alloc B).drew.heap[W.heap.size + 1]? = some B := by
    have := heap_alloc_new (W.alloc A) B
    rw [z] at this
    exact this
  subst hA hB
  exact ⟨row_cell e0 rfl, row_cell e0 rfl, row_cell e0 rfl, row_cell e0 rfl, row_cell e0 rfl, row_cell e0 rfl, row_cell e1 rfl, row_free e1, row_cell e1 rfl, row_free e1, row_cell e1 rfl, row_free e1, row_cell e1 rfl, row_free e1, row_cell e1 rfl, row_free e1, row_cell e1 rfl, row_free e1⟩
theorem copy_b0 (n m : Nat) (D : LkB) (W : World) : Below W.heap.size W ((W.alloc (.cells #[.slice (some ⟨D.v, 0, none⟩) n D.cv, .slice (some ⟨D.l, 0, none⟩) n D.cl, .slice (some ⟨D.n, 0, none⟩) n D.cn, .slice (some ⟨D.p, 0, none⟩) n D.cp, .slice (some ⟨D.f, 0, none⟩) m D.cf, .slice (some ⟨D.a, 0, none⟩) m D.ca] 39)).alloc (.cells #[.slice none 0 0, .slice none 0 0, .slice none 0 0, .slice none 0 0, .slice none 0 0, .slice none 0 0] 39)).drew := by
  obtain ⟨A, hA⟩ : ∃ A : Obj, A = (.cells #[.slice (some ⟨D.v, 0, none⟩) n D.cv, .slice (some ⟨D.l, 0, none⟩) n D.cl, .slice (some ⟨D.n, 0, none⟩) n D.cn, .slice (some ⟨D.p, 0, none⟩) n D.cp, .slice (some ⟨D.f, 0, none⟩) m D.cf, .slice (some ⟨D.a, 0, none⟩) m D.ca] 39) := ⟨_, rfl⟩
  obtain ⟨B, hB⟩ : ∃ B : Obj, B = (.cells #[.slice none 0 0, .slice none 0 0, .slice none 0 0, .slice none 0 0, .slice none 0 0, .slice none 0 0] 39) := ⟨_, rfl⟩
  rw [← hA, ← hB]
  have z : (W.alloc A).heap.size = W.heap.size + 1 := Array.size_push ..
  exact (((Below.refl _ _).alloc (Nat.le_refl _) _).alloc (by omega) _).drew
end Go.Proofs.Ytnbniflljbbpbaa
