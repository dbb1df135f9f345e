/- links: a pool in memory. -/
import Derived.Test.YtmelcohfjonjfaaLkMath
import Derived.Test.YtmelcohfjonjfaaProg
import Derived.WalkKit
import Derived.WalkLawsBesides
import Derived.WalkSpells
import Derived.Lib.Hide
import Derived.Outline
import Derived.Deep.QuietTactic
import Derived.BigQuiet
import Derived.IntWalk
import Derived.Below
import Derived.Deep.LoopGhost
import Derived.RegionTactic
namespace Go.Proofs.Ytmelcohfjonjfaa
open Go.RowKit

theorem heap_set {W : World} {B i : Nat} {cs : Array Value} {t : TypeId} (v : Value) (h : W.heap[B]? = some (.cells cs t (0, 0))) : (W.setCell ⟨B, i, none⟩ v).heap[B]? = some (.cells (cs.setIfInBounds i v) t (0, 0)) := by
  obtain ⟨hlt, h'⟩ := Array.getElem?_eq_some_iff.1 h
  show (W.heap.modify B _)[B]? = _
  rw [Array.getElem?_eq_getElem (by simpa using hlt), Array.getElem_modify_self, h']
  rfl
theorem row_cell {W : World} {B i : Nat} {cs : Array Value} {t : TypeId} {v : Value} (h : W.heap[B]? = some (.cells cs t (0, 0))) (hv : cs[i]? = some v) : W.cell? ⟨B, i, none⟩ = some v := by
  unfold World.cell?; simp only [h]; exact hv
theorem row_free {W : World} {B i : Nat} {cs : Array Value} {t : TypeId} (h : W.heap[B]? = some (.cells cs t (0, 0))) : W.frozen? ⟨B, i, none⟩ = false := by
  unfold World.frozen?; simp only [h]; simp
/-- All blocks below D but those of S are as they were. -/
structure BelowS (S : Nat → Prop) (D : Nat) (w w' : World) : Prop where
  os : w'.os = w.os
  tape : w'.tape = w.tape
  output : w'.output = w.output
  size : w.heap.size ≤ w'.heap.size
  block : ∀ k, k < D → ¬ S k → w'.heap[k]? = w.heap[k]?
theorem BelowS.refl (S : Nat → Prop) (D : Nat) (w : World) : BelowS S D w w := ⟨rfl, rfl, rfl, Nat.le_refl _, fun _ _ _ => rfl⟩
theorem BelowS.trans {S : Nat → Prop} {D : Nat} {a b c : World} (h : BelowS S D a b) (k : BelowS S D b c) : BelowS S D a c :=
  ⟨k.os.trans h.os, k.tape.trans h.tape, k.output.trans h.output, Nat.le_trans h.size k.size, fun i hi hn => (k.block i hi hn).trans (h.block i hi hn)⟩
theorem BelowS.of {S : Nat → Prop} {D : Nat} {a b : World} (h : Below D a b) : BelowS S D a b := ⟨h.os, h.tape, h.output, h.size, fun k hk _ => h.block k hk⟩
theorem BelowS.less {S : Nat → Prop} {D E : Nat} {a b : World} (h : BelowS S E a b) (hd : D ≤ E) : BelowS S D a b := ⟨h.os, h.tape, h.output, h.size, fun k hk hn => h.block k (Nat.lt_of_lt_of_le hk hd) hn⟩
theorem BelowS.cell {S : Nat → Prop} {D : Nat} {w W : World} (h : BelowS S D w W) {B : Nat} (hB : S B) (j : Nat) (u : Value) : BelowS S D w (W.setCell ⟨B, j, none⟩ u) :=
  h.trans ⟨rfl, rfl, rfl, by simp [World.setCell], fun k _ hk => Below.heap_setCell _ _ _ _ (fun e => hk (e ▸ hB))⟩
/-- Numbers in a row. -/
def RowF (W : World) (g k : Nat) (f : Nat → Int) : Prop := ∃ cur, W.heap[g]? = some (.cells cur 3 (0, 0)) ∧ k ≤ cur.size ∧ ∀ j, j < k → cur[j]? = some (.int .i64 (f j))
theorem RowF.get {W : World} {g k : Nat} {f : Nat → Int} (h : RowF W g k f) {j : Nat} (hj : j < k) : W.cell? ⟨g, j, none⟩ = some (.int .i64 (f j)) ∧ W.frozen? ⟨g, j, none⟩ = false := by
  obtain ⟨cur, h1, h2, h3⟩ := h
  exact ⟨row_cell h1 (h3 j hj), row_free h1⟩
theorem RowF.set {W : World} {g k : Nat} {f : Nat → Int} (h : RowF W g k f) {j : Nat} (hj : j < k) (z : Int) : RowF (W.setCell ⟨g, j, none⟩ (.int .i64 z)) g k (updF f j z) := by
  obtain ⟨cur, h1, h2, h3⟩ := h
  refine ⟨_, heap_set _ h1, by simpa using h2, fun i hi => ?_⟩
  rw [Array.getElem?_setIfInBounds]
  by_cases e : j = i
  · subst e
    rw [if_pos rfl, if_pos (by omega), updF_same]
  · rw [if_neg e, h3 i hi, updF_other (fun h => e h.symm)]
theorem RowF.block {W W' : World} {g k : Nat} {f : Nat → Int} (h : RowF W g k f) (hb : W'.heap[g]? = W.heap[g]?) : RowF W' g k f := by
  obtain ⟨cur, h1, h2, h3⟩ := h
  exact ⟨cur, hb.trans h1, h2, h3⟩
theorem RowF.other {W : World} {g k : Nat} {f : Nat → Int} (h : RowF W g k f) {g' : Nat} (hn : g ≠ g') (j : Nat) (u : Value) : RowF (W.setCell ⟨g', j, none⟩ u) g k f :=
  h.block (Below.heap_setCell _ _ _ _ (by simpa using hn))
/-- A pool's rows: where they lie, and their capacities. -/
structure LkB where
  v : Nat
  l : Nat
  n : Nat
  p : Nat
  f : Nat
  a : Nat
  cv : Nat
  cl : Nat
  cn : Nat
  cp : Nat
  cf : Nat
  ca : Nat
def LkB.S (D : LkB) (k : Nat) : Prop := k = D.v ∨ k = D.l ∨ k = D.n ∨ k = D.p ∨ k = D.f ∨ k = D.a
def slc (g k c : Nat) : Value := .slice (some ⟨g, 0, none⟩) k c
/-- A pool with n slots and m lists lies in block B. -/
structure PoolAt (W : World) (B n m : Nat) (D : LkB) (v : Nat → Int) (F : LkF) : Prop where
  box : W.heap[B]? = some (.cells #[.pointer (some ⟨B, 0, none⟩), slc D.v n D.cv, slc D.l n D.cl, slc D.n n D.cn, slc D.p n D.cp, slc D.f m D.cf, slc D.a m D.ca] 81 (0, 0))
  rv : RowF W D.v n v
  rl : RowF W D.l n F.list
  rn : RowF W D.n n F.next
  rp : RowF W D.p n F.prev
  rf : RowF W D.f m F.first
  ra : RowF W D.a m F.last
  ne : [B, D.v, D.l, D.n, D.p, D.f, D.a].Nodup
  nn : 1 ≤ n ∧ n ≤ 2000
  mm : 1 ≤ m ∧ m ≤ 64
  kv : n ≤ D.cv
theorem PoolAt.cells {W : World} {B n m : Nat} {D : LkB} {v : Nat → Int} {F : LkF} (h : PoolAt W B n m D v F) :
    W.cell? ⟨B, 0, none⟩ = some (.pointer (some ⟨B, 0, none⟩)) ∧ W.cell? ⟨B, 1, none⟩ = some (.slice (some ⟨D.v, 0, none⟩) n D.cv) ∧ W.cell? ⟨B, 2, none⟩ = some (.slice (some ⟨D.l, 0, none⟩) n D.cl) ∧ W.cell? ⟨B, 3, none⟩ = some (.slice (some ⟨D.n, 0, none⟩) n D.cn) ∧
    W.cell? ⟨B, 4, none⟩ = some (.slice (some ⟨D.p, 0, none⟩) n D.cp) ∧ W.cell? ⟨B, 5, none⟩ = some (.slice (some ⟨D.f, 0, none⟩) m D.cf) ∧ W.cell? ⟨B, 6, none⟩ = some (.slice (some ⟨D.a, 0, none⟩) m D.ca) :=
  ⟨row_cell h.box rfl, row_cell h.box rfl, row_cell h.box rfl, row_cell h.box rfl, row_cell h.box rfl, row_cell h.box rfl, row_cell h.box rfl⟩
theorem PoolAt.apart {W : World} {B n m : Nat} {D : LkB} {v : Nat → Int} {F : LkF} (h : PoolAt W B n m D v F) :
    (B ≠ D.v ∧ B ≠ D.l ∧ B ≠ D.n ∧ B ≠ D.p ∧ B ≠ D.f ∧ B ≠ D.a) ∧ (D.v ≠ D.l ∧ D.v ≠ D.n ∧ D.v ≠ D.p ∧ D.v ≠ D.f ∧ D.v ≠ D.a) ∧ (D.l ≠ D.n ∧ D.l ≠ D.p ∧ D.l ≠ D.f ∧ D.l ≠ D.a) ∧ (D.n ≠ D.p ∧ D.n ≠ D.f ∧ D.n ≠ D.a) ∧ (D.p ≠ D.f ∧ D.p ≠ D.a) ∧ D.f ≠ D.a := by
  have := h.ne
  simp only [List.nodup_cons, List.mem_cons, not_or, List.not_mem_nil, not_false_eq_true, and_true] at this
  exact ⟨⟨this.1.1, this.1.2.1, this.1.2.2.1, this.1.2.2.2.1, this.1.2.2.2.2.1, this.1.2.2.2.2.2⟩, ⟨this.2.1.1, this.2.1.2.1, this.2.1.2.2.1, this.2.1.2.2.2.1, this.2.1.2.2.2.2⟩, ⟨this.2.2.1.1, this.2.2.1.2.1, this.2.2.1.2.2.1, this.2.2.1.2.2.2⟩, ⟨this.2.2.2.1.1, this.2.2.2.1.2.1, this.2.2.2.1.2.2⟩, ⟨this.2.2.2.2.1.1, this.2.2.2.2.1.2⟩, this.2.2.2.2.2.1⟩
theorem PoolAt.setFirst {W : World} {B n m : Nat} {D : LkB} {v : Nat → Int} {F : LkF} (h : PoolAt W B n m D v F) {j : Nat} (hj : j < m) (z : Int) : PoolAt (W.setCell ⟨D.f, j, none⟩ (.int .i64 z)) B n m D v { F with first := updF F.first j z } := by
  obtain ⟨a1, a2, a3, a4, a5, a6⟩ := h.apart
  exact ⟨(Below.heap_setCell _ _ _ _ (by simpa using a1.2.2.2.2.1)).trans h.box, h.rv.other a2.2.2.2.1 _ _, h.rl.other a3.2.2.1 _ _, h.rn.other a4.2.1 _ _, h.rp.other a5.1 _ _, h.rf.set hj z, h.ra.other (fun e => a6 e.symm) _ _, h.ne, h.nn, h.mm, h.kv⟩
theorem PoolAt.setLast {W : World} {B n m : Nat} {D : LkB} {v : Nat → Int} {F : LkF} (h : PoolAt W B n m D v F) {j : Nat} (hj : j < m) (z : Int) : PoolAt (W.setCell ⟨D.a, j, none⟩ (.int .i64 z)) B n m D v { F with last := updF F.last j z } := by
  obtain ⟨a1, a2, a3, a4, a5, a6⟩ := h.apart
  exact ⟨(Below.heap_setCell _ _ _ _ (by simpa using a1.2.2.2.2.2)).trans h.box, h.rv.other a2.2.2.2.2 _ _, h.rl.other a3.2.2.2 _ _, h.rn.other a4.2.2 _ _, h.rp.other a5.2 _ _, h.rf.other a6 _ _, h.ra.set hj z, h.ne, h.nn, h.mm, h.kv⟩
theorem PoolAt.setNext {W : World} {B n m : Nat} {D : LkB} {v : Nat → Int} {F : LkF} (h : PoolAt W B n m D v F) {j : Nat} (hj : j < n) (z : Int) : PoolAt (W.setCell ⟨D.n, j, none⟩ (.int .i64 z)) B n m D v { F with next := updF F.next j z } := by
  obtain ⟨a1, a2, a3, a4, a5, a6⟩ := h.apart
  exact ⟨(Below.heap_setCell _ _ _ _ (by simpa using a1.2.2.1)).trans h.box, h.rv.other a2.2.1 _ _, h.rl.other a3.1 _ _, h.rn.set hj z, h.rp.other (fun e => a4.1 e.symm) _ _, h.rf.other (fun e => a4.2.1 e.symm) _ _, h.ra.other (fun e => a4.2.2 e.symm) _ _, h.ne, h.nn, h.mm, h.kv⟩
theorem PoolAt.setPrev {W : World} {B n m : Nat} {D : LkB} {v : Nat → Int} {F : LkF} (h : PoolAt W B n m D v F) {j : Nat} (hj : j < n) (z : Int) : PoolAt (W.setCell ⟨D.p, j, none⟩ (.int .i64 z)) B n m D v { F with prev := updF F.prev j z } := by
  obtain ⟨a1, a2, a3, a4, a5, a6⟩ := h.apart
  exact ⟨(Below.heap_setCell _ _ _ _ (by simpa using a1.2.2.2.1)).trans h.box, h.rv.other a2.2.2.1 _ _, h.rl.other a3.2.1 _ _, h.rn.other a4.1 _ _, h.rp.set hj z, h.rf.other (fun e => a5.1 e.symm) _ _, h.ra.other (fun e => a5.2 e.symm) _ _, h.ne, h.nn, h.mm, h.kv⟩
theorem PoolAt.setList {W : World} {B n m : Nat} {D : LkB} {v : Nat → Int} {F : LkF} (h : PoolAt W B n m D v F) {j : Nat} (hj : j < n) (z : Int) : PoolAt (W.setCell ⟨D.l, j, none⟩ (.int .i64 z)) B n m D v { F with list := updF F.list j z } := by
  obtain ⟨a1, a2, a3, a4, a5, a6⟩ := h.apart
  exact ⟨(Below.heap_setCell _ _ _ _ (by simpa using a1.2.1)).trans h.box, h.rv.other a2.1 _ _, h.rl.set hj z, h.rn.other (fun e => a3.1 e.symm) _ _, h.rp.other (fun e => a3.2.1 e.symm) _ _, h.rf.other (fun e => a3.2.2.1 e.symm) _ _, h.ra.other (fun e => a3.2.2.2 e.symm) _ _, h.ne, h.nn, h.mm, h.kv⟩
theorem PoolAt.setVal {W : World} {B n m : Nat} {D : LkB} {v : Nat → Int} {F : LkF} (h : PoolAt W B n m D v F) {j : Nat} (hj : j < n) (z : Int) : PoolAt (W.setCell ⟨D.v, j, none⟩ (.int .i64 z)) B n m D (updF v j z) F := by
  obtain ⟨a1, a2, a3, a4, a5, a6⟩ := h.apart
  exact ⟨(Below.heap_setCell _ _ _ _ (by simpa using a1.1)).trans h.box, h.rv.set hj z, h.rl.other (fun e => a2.1 e.symm) _ _, h.rn.other (fun e => a2.2.1 e.symm) _ _, h.rp.other (fun e => a2.2.2.1 e.symm) _ _, h.rf.other (fun e => a2.2.2.2.1 e.symm) _ _, h.ra.other (fun e => a2.2.2.2.2 e.symm) _ _, h.ne, h.nn, h.mm, h.kv⟩
/-- A slot, or none. -/
def SlotOr (n : Nat) (x : Int) : Prop := x = -1 ∨ ∃ k : Nat, x = (k : Int) ∧ k < n
end Go.Proofs.Ytmelcohfjonjfaa
