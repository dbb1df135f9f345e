/- links: slices.Repeat of one number. -/
import Derived.Test.YtnbniflljbbpbaaLkCopy
import Derived.Test.YtnbniflljbbpbaaShelf
import Derived.Laws.CopyRow
import Derived.Laws.OwnMore
import Derived.BigFrame
namespace Go.Proofs.Ytnbniflljbbpbaa
open Go.RowKit

def rowK (n k : Nat) (a b : Value) : List Value := List.replicate k a ++ List.replicate (n - k) b
theorem rowK_len {n k : Nat} (a b : Value) (h : k ≤ n) : (rowK n k a b).length = n := by simp [rowK]; omega
theorem rowK_put {n k j : Nat} (a b : Value) (h : k ≤ n) (hj : j ≤ n - k) : (rowK n k a b).take k ++ List.replicate j a ++ (rowK n k a b).drop (k + j) = rowK n (k + j) a b := by
  unfold rowK
  rw [List.take_left' (by simp), List.drop_append]
  simp only [List.length_replicate, List.drop_replicate, ← List.replicate_append_replicate]
  rw [show k - (k + j) = 0 by omega, show n - k - (k + j - k) = n - (k + j) by omega]
  simp
theorem rowK_get {n k j : Nat} (a b : Value) (hj : j < k) : (rowK n k a b)[j]? = some a := by
  unfold rowK
  rw [List.getElem?_append_left (by simpa using hj), List.getElem?_replicate, if_pos hj]
theorem made_int (W : World) (n : Nat) (hn : n ≤ 2000) : (Instr.makeSlice 29 (.int .i64 (n : Int)) (.int .i64 (n : Int))).run Try.prog W = .ok (.slice (some ⟨W.heap.size, 0, none⟩) n n) (W.alloc (.cells (rowK n 0 (.int .i64 (-1)) (.int .i64 0)).toArray 3)) := by
  obtain ⟨i0, hi, hz0, hz1, hz2⟩ := info_partsB info_int
  have := run_make (P := Try.prog) W 29 3 i0 (.int .i64 0) Try.underlying29 hi hz0 .i64 .i64 (n : Int) n (by omega) (Int.le_refl _) (by rw [hz2]; omega) (by omega)
  rw [this, toNat_cast, hz1, Nat.mul_one]
  have e : madeCells (Value.int .i64 0).cells n = (rowK n 0 (.int .i64 (-1)) (.int .i64 0)).toArray := by
    apply Array.ext'
    rw [show (Value.int .i64 0).cells = #[.int .i64 0] from rfl, toList_madeCells_one]
    simp [rowK]
  rw [e]
/-- A row of n cells, of which k are -1. -/
def RowK (W : World) (g n k : Nat) : Prop := W.heap[g]? = some (.cells (rowK n k (.int .i64 (-1)) (.int .i64 0)).toArray 3 (0, 0))
theorem copy_rowK {W : World} {g n k j c c' : Nat} {a : Addr} (h : RowK W g n k) (hk : k ≤ n) (ha : ∀ i, i < j → W.cell? (a.add i) = some (.int .i64 (-1))) {l : Nat} (hj : j = Nat.min l (n - k)) :
    (Builtin.copy_ #[29, 29] 3 #[.slice (some ⟨g, k, none⟩) (n - k) c, .slice (some a) l c']).run Try.prog W = .ok (.int .i64 (j : Int)) (W.setRow g (rowK n (k + j) (.int .i64 (-1)) (.int .i64 0)).toArray) := by
  have hj' : j ≤ n - k := by rw [hj]; exact Nat.min_le_right _ _
  have := run_copy_row (P := Try.prog) W 29 29 3 3 g k (n - k) c a l c' _ 3 (List.replicate j (.int .i64 (-1))) Try.underlying29 (by kernel_rfl) h (by rw [List.length_replicate, hj]) (fun i v hv => by
      rw [List.getElem?_replicate] at hv
      by_cases hi : i < j
      · rw [if_pos hi] at hv; cases hv; exact ha i hi
      · rw [if_neg hi] at hv; cases hv) (by simp [rowK_len, hk]; omega) (fun v hv => by rw [(List.mem_replicate.1 hv).2]; rfl)
  rw [this, List.length_replicate, List.toList_toArray, rowK_put _ _ hk hj']
  rfl
theorem setRow_row {W : World} {g : Nat} {cs cs' : Array Value} {t : TypeId} (h : W.heap[g]? = some (.cells cs t (0, 0))) : (W.setRow g cs').heap[g]? = some (.cells cs' t (0, 0)) := by
  obtain ⟨hlt, h'⟩ := Array.getElem?_eq_some_iff.1 h
  show (W.heap.modify g _)[g]? = _
  rw [Array.getElem?_eq_getElem (by simpa using hlt), Array.getElem_modify_self, h']
end Go.Proofs.Ytnbniflljbbpbaa
