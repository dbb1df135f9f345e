/- links: append of any slice of numbers to a row of one's own; what put and cut leave. -/
import Derived.Test.YtnbniflljbbpbaaLrFree
import Derived.Deep.RegionHeld3
import Derived.Deep.AppendLies
namespace Go.Proofs.Ytnbniflljbbpbaa
open Go.RowKit

/-- A slice that holds m numbers, or is nil. -/
def NewsAt (W : World) (x : Value) (m : Nat) (f : Nat → Int) : Prop :=
  (x = .slice none 0 0 ∧ m = 0) ∨ ∃ g off c : Nat, x = .slice (some ⟨g, off, none⟩) m c ∧ ∀ j, j < m → W.cell? ⟨g, off + j, none⟩ = some (.int .i64 (f j))
theorem run_app {w : World} {v : Value} {n : Nat} {xs : List Value} {x : Value} {m : Nat} {f : Nat → Int} {base : Nat} (ty : TypeId) (hown : w.ownsRow base 3 1 v n xs) (hx : NewsAt w x m f) (hb : base ≤ w.heap.size) (hnm : n + m ≤ 100000) :
    ∃ v' w', (Builtin.append_ #[29, 29] ty #[v, x]).run Try.prog w = .ok v' w' ∧ w'.ownsRow base 3 1 v' (n + m) (xs ++ IntC m f) ∧ w.grownBy w' v.ownBlock := by
  obtain ⟨i0, hi, hz0, hz1, hz2⟩ := info_partsB info_int
  rcases hx with ⟨rfl, rfl⟩ | ⟨g, off, c, rfl, hc⟩
  · refine ⟨v, w, run_append_owned_none (P := Try.prog) w base 29 ty 3 i0 1 Try.underlying29 hi v n xs hown, ?_, ⟨rfl, rfl, rfl, Nat.le_refl _, fun _ _ _ => rfl⟩⟩
    have : IntC 0 f = [] := rfl
    rw [this, List.append_nil, Nat.add_zero]
    exact hown
  · obtain ⟨v', w', hr, h2, h3, _⟩ := run_append_own (P := Try.prog) w base 29 ty 3 i0 (.int .i64 0) 1 8 Try.underlying29 hi hz0 hz1 hz2 rfl (by decide) v n xs hown ⟨g, off, none⟩ m c (IntC m f) (by rw [IntC_len, Nat.mul_one]) (fun j u hj => by
      have hjl : j < m := by rw [← IntC_len m f]; exact (List.getElem?_eq_some_iff.1 hj).1
      rw [IntC_get hjl] at hj
      rw [WideShapes.add_plain, ← hj]
      exact hc j hjl) (fun u hu => by
      obtain ⟨y, _, hy⟩ := List.mem_map.1 hu
      rw [← hy]; rfl) (by unfold maxLen; omega) (by omega) hb
    exact ⟨v', w', hr, h2, h3⟩
theorem step_app {ops : Array Oper} {o : Oper} {a : Act} {w : World} {K : Act → World → Prop} {Q : Exit → Act → World → Prop} {E : Prop} (hgd : o.guard = none) (s x : Operand)
    (ho : o.op = .call { callee := .builtin .append, args := #[s, x], argTypes := #[29, 29] }) (v : Value) (n : Nat) (xs : List Value) (hs : a.eval s = v) {base : Nat} (hown : w.ownsRow base 3 1 v n xs)
    (xv : Value) (m : Nat) (f : Nat → Int) (hx : a.eval x = xv) (hnews : NewsAt w xv m f) (hb : base ≤ w.heap.size) (hnm : n + m ≤ 100000)
    (h : ∀ v' w', w'.ownsRow base 3 1 v' (n + m) (xs ++ IntC m f) → Below base w w' → K (a.put o.dst v') w') :
    if Region.wanted o (yielded ops a.tmps) = true then Oper.wp Try.prog o a w K Q else E := by
  have hw : Region.wanted o (yielded ops a.tmps) = true := by simp [Region.wanted, hgd]
  rw [if_pos hw]
  obtain ⟨v', w', hr, h2, h3⟩ := run_app o.type hown hnews hb hnm
  unfold Oper.wp execOp
  simp only [ho, resolve, invoke, builtin, Sem.run_bind, Sem.run_pure, Result.andThen_ok, List.map_toArray, List.map_cons, List.map_nil, hs, hx, hr]
  exact h v' w' h2 ((Below.refl base w).grown h3 hb (fun k e => (hown.lt k e).1))
theorem natC_eq (l : List Nat) : natC l = IntC l.length (natF l) := by
  apply List.ext_getElem?
  intro j
  by_cases hj : j < l.length
  · rw [IntC_get hj]
    unfold natC natF
    rw [List.getElem?_map, List.getElem?_eq_getElem hj, List.getD_eq_getElem?_getD, List.getElem?_eq_getElem hj]
    rfl
  · rw [List.getElem?_eq_none (by rw [natC_len]; omega), List.getElem?_eq_none (by rw [IntC_len]; omega)]
theorem natC_take {l : List Nat} {k : Nat} (hk : k ≤ l.length) : IntC k (natF l) = natC (l.take k) := by
  rw [natC_eq, List.length_take, Nat.min_eq_left hk]
  apply List.ext_getElem?
  intro j
  by_cases hj : j < k
  · rw [IntC_get hj, IntC_get hj]
    unfold natF
    rw [List.getD_eq_getElem?_getD, List.getD_eq_getElem?_getD, List.getElem?_take_of_lt hj]
  · rw [List.getElem?_eq_none (by rw [IntC_len]; omega), List.getElem?_eq_none (by rw [IntC_len]; omega)]
theorem natC_drop {l : List Nat} (k : Nat) : IntC (l.length - k) (fun j => natF l (k + j)) = natC (l.drop k) := by
  rw [natC_eq, List.length_drop]
  apply List.ext_getElem?
  intro j
  by_cases hj : j < l.length - k
  · rw [IntC_get hj, IntC_get hj]
    unfold natF
    rw [List.getD_eq_getElem?_getD, List.getD_eq_getElem?_getD, List.getElem?_drop]
  · rw [List.getElem?_eq_none (by rw [IntC_len]; omega), List.getElem?_eq_none (by rw [IntC_len]; omega)]
theorem own_slK {K : Nat → Prop} {W : World} {base : Nat} {u : Value} {l : List Nat} (h : W.ownsRow base 3 1 u l.length (natC l)) (hK : ∀ q, base ≤ q → K q) : SlK K W u l := by
  rcases h.2 with ⟨h1, h0⟩ | ⟨g, c, cur, h1, hb, hg, hc, _, hs, ht⟩
  · exact .inl ⟨h1, List.length_eq_zero_iff.1 h0⟩
  · refine .inr ⟨g, c, h1, hc, hK g hb, (Array.getElem?_eq_some_iff.1 hg).1, fun j hj => row_cell hg ?_⟩
    have h2 : (cur.toList.take (l.length * 1))[j]? = (natC l)[j]? := by rw [ht]
    rw [List.getElem?_take_of_lt (by omega), Array.getElem?_toList, natC_eq, IntC_get hj] at h2
    exact h2
/-- What is kept, what is written, and where new memory begins. -/
structure KOk (K : Nat → Prop) (base C g gv : Nat) : Prop where
  new : ∀ q, base ≤ q → K q
  ng : ¬ K g
  nv : ¬ K gv
  nc : ¬ K C
  lt : C < base ∧ g < base ∧ gv < base
/-- A list is another one: its slice is stored, in a later world. -/
theorem LsAt.setList {K : Nat → Prop} {W W1 : World} {C g gv cg cv n m base : Nat} {v : Nat → Int} {of : Nat → List Nat} (h : LsAt K W C g gv cg cv n m v of) (hk : KOk K base C g gv) (hbs : base ≤ W.heap.size) (hb : Below W.heap.size W W1) {i : Nat} (hi : i < m) {u : Value} {l : List Nat} (hu : SlK K W1 u l) :
    LsAt K (W1.setCell ⟨g, i, none⟩ u) C g gv cg cv n m v (setOf of i l) := by
  obtain ⟨n1, n2, n3⟩ := h.ne
  have hlt := hk.lt
  have ho : ∀ k, k ≠ g → (W1.setCell ⟨g, i, none⟩ u).heap[k]? = W1.heap[k]? := fun k e => Below.heap_setCell _ _ _ _ e
  have hsz : (W1.setCell ⟨g, i, none⟩ u).heap.size = W1.heap.size := by simp [World.setCell]
  have hkq : ∀ q, K q → q ≠ g := fun q hq e => hk.ng (e ▸ hq)
  obtain ⟨cur, r1, r2, r3⟩ := h.rows
  have r1' := (hb.block g (by omega)).trans r1
  refine ⟨(ho C n1).trans ((hb.block C (by omega)).trans h.box), ⟨_, heap_set (i := i) u r1', by simpa using r2, fun j hj => ?_⟩, h.vals.block ((ho gv (fun e => n3 e.symm)).trans (hb.block gv (by omega))), h.ne⟩
  rw [Array.getElem?_setIfInBounds]
  unfold setOf
  by_cases e : i = j
  · subst e
    rw [if_pos rfl, if_pos (by omega), if_pos rfl]
    exact ⟨u, rfl, hu.keep (by rw [hsz]; exact Nat.le_refl _) (fun q hq _ => ho q (hkq q hq))⟩
  · rw [if_neg e, if_neg (fun e2 => e e2.symm)]
    obtain ⟨u2, hu2, hs2⟩ := r3 j hj
    exact ⟨u2, hu2, hs2.keep (by rw [hsz]; exact hb.size) (fun q hq hlt => (ho q (hkq q hq)).trans (hb.block q hlt))⟩
def LsS (g gv : Nat) (k : Nat) : Prop := k = g ∨ k = gv
/-- What put and cut leave. -/
def LsPost (K : Nat → Prop) (C g gv cg cv n m : Nat) (v : Nat → Int) (of : Nat → List Nat) (W : World) (e : Ending) (W' : World) : Prop := e = .returned (.tuple #[]) ∧ LsAt K W' C g gv cg cv n m v of ∧ BelowS (LsS g gv) W.heap.size W W'
theorem belowS_set {g gv i : Nat} {W W1 : World} (hb : Below W.heap.size W W1) (u : Value) : BelowS (LsS g gv) W.heap.size W (W1.setCell ⟨g, i, none⟩ u) :=
  (BelowS.of hb).cell (show LsS g gv g from .inl rfl) i u
end Go.Proofs.Ytnbniflljbbpbaa
