/- An array of 1025 numbers in memory: read whole, and at one place. -/
import Derived.Test.YtnhbilcpdombfaaSpCheck
import Derived.Deep.MidRow
namespace Go.Proofs.Ytnhbilcpdombfaa
open Go.RowKit

/-- An array of numbers. -/
def arrC (f : Nat → Int) (n : Nat) : Array Value := ((List.range n).map fun j => Value.int .i64 (f j)).toArray
theorem arrC_size (f : Nat → Int) (n : Nat) : (arrC f n).size = n := by simp [arrC]
theorem arrC_get (f : Nat → Int) {n k : Nat} (h : k < n) : (arrC f n)[k]? = some (.int .i64 (f k)) := by simp [arrC, h]
def updF (f : Nat → Int) (k : Nat) (v : Int) : Nat → Int := fun p => if p = k then v else f p
theorem arrC_set (f : Nat → Int) (n k : Nat) (v : Int) : (arrC f n).setIfInBounds k (.int .i64 v) = arrC (updF f k v) n := by
  apply Array.ext_getElem?
  intro q
  rw [Array.getElem?_setIfInBounds, arrC_size]
  by_cases hq : q < n
  · rw [arrC_get _ hq, arrC_get _ hq]
    by_cases e : k = q
    · subst e; simp [hq, updF]
    · simp [e, updF]
      intro h; exact absurd h.symm e
  · rw [Array.getElem?_eq_none (by rw [arrC_size]; omega), Array.getElem?_eq_none (by rw [arrC_size]; omega)]
    by_cases e : k = q <;> simp [e, hq]
theorem arrC_zero : Try.zeroCells85 = arrC (fun _ => 0) 1025 := by kernel_rfl
set_option maxRecDepth 100000 in
theorem idx_arr (f : Nat → Int) (k : Nat) (hk : k < 1025) (W : World) : (Instr.index 85 (.agg (arrC f 1025)) (.int .i64 (k : Int))).run Try.prog W = .ok (.int .i64 (f k)) W := by
  have h1 : (0 : Int) ≤ k ∧ (k : Int) < 1025 := ⟨by omega, by omega⟩
  simp [Instr.index, go_sem, h1, arrC_get f hk]
  intro h; omega
theorem heap_set {W : World} {B i : Nat} {cs : Array Value} {t : TypeId} (v : Value) (h : W.heap[B]? = some (.cells cs t (0, 0))) : (W.setCell ⟨B, i, none⟩ v).heap[B]? = some (.cells (cs.setIfInBounds i v) t (0, 0)) := by
  obtain ⟨hlt, h'⟩ := Array.getElem?_eq_some_iff.1 h
  show (W.heap.modify B _)[B]? = _
  rw [Array.getElem?_eq_getElem (by simpa using hlt), Array.getElem_modify_self, h']
  rfl
theorem row_cell {W : World} {B i : Nat} {cs : Array Value} {t : TypeId} {v : Value} (h : W.heap[B]? = some (.cells cs t (0, 0))) (hv : cs[i]? = some v) : W.cell? ⟨B, i, none⟩ = some v := by
  unfold World.cell?; simp only [h]; exact hv
theorem row_free {W : World} {B i : Nat} {cs : Array Value} {t : TypeId} (h : W.heap[B]? = some (.cells cs t (0, 0))) : W.frozen? ⟨B, i, none⟩ = false := by
  unfold World.frozen?; simp only [h]; simp
theorem range_arr {W : World} {B : Nat} {f : Nat → Int} (h : W.heap[B]? = some (.cells (arrC f 1025) 85 (0, 0))) : W.rangeAt B 0 ((List.range 1025).map fun j => Value.int .i64 (f j)) := fun j v hj => by
  rw [Nat.zero_add]
  exact row_cell h (by rw [← hj]; simp [arrC])
theorem info_arr {f : Nat → Int} : (Try.prog.info? 85).map (·.size) = some ((List.range 1025).map fun j => Value.int .i64 (f j)).length := by
  have hl : ((List.range 1025).map fun j => Value.int .i64 (f j)).length = 1025 := by simp
  have hi : (Try.prog.info? 85).map (·.size) = some 1025 := by kernel_rfl
  rw [hl]; exact hi
theorem wp_load_arr {op : Oper} {a : Act} {W : World} {K : Act → World → Prop} {Q : Exit → Act → World → Prop} {x : Operand} {B : Nat} {f : Nat → Int} (ho : op.op = .load 85 x) (hx : a.eval x = .pointer (some ⟨B, 0, none⟩))
    (h : W.heap[B]? = some (.cells (arrC f 1025) 85 (0, 0))) (hk : K (a.put op.dst (.agg (arrC f 1025))) W) : op.wp Try.prog a W K Q :=
  wp_load_mid (P := Try.prog) 85 x ho B 0 hx ((List.range 1025).map fun j => Value.int .i64 (f j)) _ (range_arr h) Try.underlying85 rfl info_arr hk
end Go.Proofs.Ytnhbilcpdombfaa
