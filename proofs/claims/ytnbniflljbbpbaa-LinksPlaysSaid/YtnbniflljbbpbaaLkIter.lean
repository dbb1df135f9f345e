/- links: what iterators and the loops over them need (as in SpIter). -/
import Derived.Test.YtnbniflljbbpbaaLkAwake
import Derived.RangeFuncBox
import Derived.Maps.AppendAt
import Derived.RangeFuncNested
import Derived.RangeFuncBound
import Derived.RangeFuncCalls
import Derived.RangeFuncLeaves
import Derived.Shelf.Abstract
import Derived.OwnWalkIn
import Derived.TacticsInMore
import Derived.LoopNIn
import Derived.LoopIn
import Derived.Sort.QuietIn
import Derived.Sort.LoopGhostIn
import Derived.Sort.BigQuietIn
namespace Go.Proofs.Ytnbniflljbbpbaa
open Go.RowKit Go.Shelf
attribute [local go_sem] Oper.semAt_some

theorem grownBy_of_below {w w' : World} (h : Below w.heap.size w w') (row : Option Nat) : w.grownBy w' row := ⟨h.os, h.tape, h.output, h.size, fun k hk _ => h.block k hk⟩
theorem cell_of_row1 {W : World} {B : Nat} {v : Value} {t : TypeId} (h : W.heap[B]? = some (.cells #[v] t (0, 0))) : W.cell? ⟨B, 0, none⟩ = some v := row_cell h rfl
theorem belowS_b {S : Nat → Prop} {D : Nat} {w1 : World} (hD : D ≤ w1.heap.size) (W : World) (l : Nat) (o o' : Obj) (hl : w1.heap.size ≤ l) (_ : W.heap[l]? = some o) (_ : o.isCells = false) (_ : o.isWalk = false) : BelowS S D W (W.putObj l o') := by
  have g := grownBy_putObj' W l o'
  refine ⟨g.os, g.tape, g.output, g.size, fun k hk _ => World.putObj_heap_other (by omega)⟩
theorem belowS_own {β : Type} {S : Nat → Prop} {D : Nat} {w1 : World} (hD : D ≤ w1.heap.size) : OwnFrom w1.heap.size (fun (_ : β) W => BelowS S D w1 W) := by
  intro s W W' row hs hg hr
  refine hs.trans ⟨hg.os, hg.tape, hg.output, hg.size, fun k hk _ => hg.block k (Nat.lt_of_lt_of_le (Nat.lt_of_lt_of_le hk hD) hs.size) (fun e => ?_)⟩
  have := (hr k e.symm).1; omega
theorem below_own {β : Type} {b B : Nat} {w0 : World} (hb : b ≤ B) (hz : b ≤ w0.heap.size) : OwnFrom B (fun (_ : β) W => Below b w0 W) := by
  intro s W W' row hs hg hr
  refine hs.trans ⟨hg.os, hg.tape, hg.output, hg.size, fun k hk => hg.block k (Nat.lt_of_lt_of_le (Nat.lt_of_lt_of_le hk hz) hs.size) (fun e => ?_)⟩
  have := (hr k e.symm).1; omega
theorem cells_own {β : Type} {B : Nat} (k : β → Nat) (c : β → Array Value) (t : TypeId) : OwnFrom B (fun s W => W.heap[k s]? = some (.cells (c s) t (0, 0))) := by
  intro s W W' row hs hg hr
  refine (hg.block _ (Array.getElem?_eq_some_iff.1 hs).1 (fun e => ?_)).trans hs
  obtain ⟨_, o, ho, hc⟩ := hr _ e.symm
  rw [hs] at ho; cases ho; cases hc
theorem alloc4 (w : World) (o1 o2 o3 o4 : Obj) : Below w.heap.size w ((((w.alloc o1).alloc o2).alloc o3).alloc o4) ∧ ((((w.alloc o1).alloc o2).alloc o3).alloc o4).heap.size = w.heap.size + 4 ∧
    ((((w.alloc o1).alloc o2).alloc o3).alloc o4).heap[w.heap.size]? = some o1 ∧ ((((w.alloc o1).alloc o2).alloc o3).alloc o4).heap[w.heap.size + 1]? = some o2 ∧
    ((((w.alloc o1).alloc o2).alloc o3).alloc o4).heap[w.heap.size + 1 + 1]? = some o3 ∧ ((((w.alloc o1).alloc o2).alloc o3).alloc o4).heap[w.heap.size + 1 + 1 + 1]? = some o4 := by
  have s1 : (w.alloc o1).heap.size = w.heap.size + 1 := by simp
  have s2 : ((w.alloc o1).alloc o2).heap.size = w.heap.size + 1 + 1 := by simp
  have s3 : (((w.alloc o1).alloc o2).alloc o3).heap.size = w.heap.size + 1 + 1 + 1 := by simp
  have n1 := heap_alloc_new w o1
  have n2 := heap_alloc_new (w.alloc o1) o2
  have n3 := heap_alloc_new ((w.alloc o1).alloc o2) o3
  have n4 := heap_alloc_new (((w.alloc o1).alloc o2).alloc o3) o4
  rw [s1] at n2; rw [s2] at n3; rw [s3] at n4
  refine ⟨((((Below.refl _ _).alloc (Nat.le_refl _) _).alloc (by omega) _).alloc (by omega) _).alloc (by omega) _, by simp, ?_, ?_, ?_, n4⟩
  · rw [Below.heap_alloc _ _ _ (by omega), Below.heap_alloc _ _ _ (by omega), Below.heap_alloc _ _ _ (by omega), n1]
  · rw [Below.heap_alloc _ _ _ (by omega), Below.heap_alloc _ _ _ (by omega), n2]
  · rw [Below.heap_alloc _ _ _ (by omega), n3]
theorem alloc3 (w : World) (o1 o2 o3 : Obj) : Below w.heap.size w (((w.alloc o1).alloc o2).alloc o3) ∧ (((w.alloc o1).alloc o2).alloc o3).heap.size = w.heap.size + 3 ∧
    (((w.alloc o1).alloc o2).alloc o3).heap[w.heap.size]? = some o1 ∧ (((w.alloc o1).alloc o2).alloc o3).heap[w.heap.size + 1]? = some o2 ∧
    (((w.alloc o1).alloc o2).alloc o3).heap[w.heap.size + 2]? = some o3 := by
  have s1 : (w.alloc o1).heap.size = w.heap.size + 1 := by simp
  have s2 : ((w.alloc o1).alloc o2).heap.size = w.heap.size + 1 + 1 := by simp
  have n1 := heap_alloc_new w o1
  have n2 := heap_alloc_new (w.alloc o1) o2
  have n3 := heap_alloc_new ((w.alloc o1).alloc o2) o3
  rw [s1] at n2; rw [s2] at n3
  refine ⟨(((Below.refl _ _).alloc (Nat.le_refl _) _).alloc (by omega) _).alloc (by omega) _, by simp, ?_, ?_, n3⟩
  · rw [Below.heap_alloc _ _ _ (by omega), Below.heap_alloc _ _ _ (by omega), n1]
  · rw [Below.heap_alloc _ _ _ (by omega), n2]
def markOf (D : Nat) : Deferred := { target := .collected D, args := #[] }
theorem leaves_marks {n : Nat} {P : Program} {fn : Func} {tmps : Array Value} {R : Ending → World → Prop} (B : Nat) (w0 : World) : ∀ (ds : List Nat) (W : World), (∀ D ∈ ds, B ≤ D ∧ W.heap[D]? = some (.deferred (some []))) → ds.Nodup → Below B w0 W →
    (∀ W', Below B w0 W' → LeavesInM Fence.wide n P fn tmps R [] .returning W') → LeavesInM Fence.wide n P fn tmps R (ds.map markOf) .returning W
  | [], W, _, _, hb, h => h W hb
  | D :: ds, W, hm, hn, hb, h => by
    have hD := hm D (by simp)
    have hlt := (Array.getElem?_eq_some_iff.1 hD.2).1
    refine ⟨by simp, .inl ⟨D, _, rfl, run_takeDeferred hD.2, leaves_marks B w0 ds _ ?_ (List.nodup_cons.1 hn).2 ?_ h⟩⟩
    · intro E hE
      have hne : E ≠ D := fun e => (List.nodup_cons.1 hn).1 (e ▸ hE)
      exact ⟨(hm E (List.mem_cons_of_mem _ hE)).1, (World.putObj_heap_other hne).trans (hm E (List.mem_cons_of_mem _ hE)).2⟩
    · exact hb.trans ((Below.refl B W).grown (grownBy_putObj' W D _) (by omega) (fun k e => by cases e; exact hD.1))
theorem row1_cell {W : World} {B : Nat} {v : Value} {t : TypeId} (h : W.heap[B]? = some (.cells #[v] t (0, 0))) : W.cell? ⟨B, 0, none⟩ = some v ∧ W.frozen? ⟨B, 0, none⟩ = false := ⟨row_cell h rfl, row_free h⟩
theorem set1B {w W : World} {b B : Nat} (h : Below b w W) (hB : b ≤ B) (u : Value) : Below b w (W.setCell ⟨B, 0, none⟩ u) := Below.setCell (p := ⟨B, 0, none⟩) h hB u

theorem set_row1 {W : World} {B : Nat} {u v : Value} {t : TypeId} (h : W.heap[B]? = some (.cells #[u] t (0, 0))) : (W.setCell ⟨B, 0, none⟩ v).heap[B]? = some (.cells #[v] t (0, 0)) := by
  rw [heap_set v h]; rfl
theorem keepsOthers_of_below {W W' : World} (h : Below W.heap.size W W') : KeepsOthers W W' := KeepsOthers.of_grownBy (grownBy_of_below h none) (fun j o e => by cases e)

/-- What an iterator's two invariants are at the loop that runs it. -/
structure LoopsV {X : Type} (V : X → Array Value) (n : Nat) (S : Nat → Prop) (D : Nat) (l N : Nat) (J Jx : List X → World → Prop) (B : Nat) : Prop where
  jb : AbidesFrom B J
  jx : AbidesFrom B Jx
  yield : ∀ pre x W1, J pre W1 → pre.length < N → YieldAt Fence.wide n Try.prog l (V x) W1 fun e W' =>
      (e = .returned (.bool true) ∧ J (pre ++ [x]) W' ∧ BelowS S D W1 W') ∨ (e = .returned (.bool false) ∧ Jx (pre ++ [x]) W')
theorem LoopsV.grow {X : Type} {V : X → Array Value} {n : Nat} {S : Nat → Prop} {D l N : Nat} {J Jx : List X → World → Prop} {B : Nat} (h : LoopsV V n S D l N J Jx B) {pre : List X} {W W' : World} (hj : J pre W) (hb : Below W.heap.size W W') : J pre W' :=
  h.jb pre W W' none hj (grownBy_of_below hb none) (fun r e => by cases e)
/-- What a round answers, as one truth value. -/
def RoundP (A B : World → Prop) (e : Ending) (W' : World) : Prop := ∃ y, e = .returned (.bool y) ∧ ((y = true ∧ A W') ∨ (y = false ∧ B W'))
theorem yield_bool {n l : Nat} {vs : Array Value} {W : World} {A B : World → Prop} (h : YieldAt Fence.wide n Try.prog l vs W fun e W' => (e = .returned (.bool true) ∧ A W') ∨ (e = .returned (.bool false) ∧ B W')) :
    YieldAt Fence.wide n Try.prog l vs W (RoundP A B) := h.mono fun e W' h => by
  rcases h with ⟨h1, h2⟩ | ⟨h1, h2⟩
  · exact ⟨true, h1, .inl ⟨rfl, h2⟩⟩
  · exact ⟨false, h1, .inr ⟨rfl, h2⟩⟩
def IterPost {X : Type} (L : List X) (J Jx : List X → World → Prop) (e : Ending) (W' : World) : Prop := (∃ v, e = .returned v) ∧ ((∃ ys, ys = L ∧ J ys W') ∨ (∃ pre, pre <+: L ∧ Jx pre W'))
theorem iter_done {X : Type} {L : List X} {J Jx : List X → World → Prop} {v : Value} {W' : World} (h : J L W') : IterPost L J Jx (.returned v) W' := ⟨⟨_, rfl⟩, .inl ⟨L, rfl, h⟩⟩
theorem iter_stop {X : Type} {L : List X} {J Jx : List X → World → Prop} {v : Value} {W' : World} (pre : List X) (hp : pre <+: L) (h : Jx pre W') : IterPost L J Jx (.returned v) W' := ⟨⟨_, rfl⟩, .inr ⟨pre, hp, h⟩⟩
end Go.Proofs.Ytnbniflljbbpbaa
