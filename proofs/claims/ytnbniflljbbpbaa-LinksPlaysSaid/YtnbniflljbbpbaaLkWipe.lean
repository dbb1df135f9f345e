/- links: wipe; slices.Index. -/
import Derived.Test.YtnbniflljbbpbaaLkEnds
import Derived.Lib.SliceRun
import Derived.BigFrame
namespace Go.Proofs.Ytnbniflljbbpbaa
open Go.RowKit

set_option maxHeartbeats 1000000 in
set_option maxRecDepth 100000 in
theorem wipe_any {W : World} {B n m : Nat} {D : LkB} {v : Nat → Int} {F : LkF} (h : PoolAt W B n m D v F) (x : Nat) (hx : x < n) :
    Calls Try.prog 62 #[.pointer (some ⟨B, 0, none⟩), .int .i64 (x : Int)] W (PoolPost B n m D (updF v x 0) F W) := by
  obtain ⟨c0, c1, c2, c3, c4, c5, c6⟩ := h.cells
  have hn := h.nn.2
  have hk := h.kv
  have x0 : (0 : Int) ≤ x := by omega
  have x1 : (x : Int) < n := by omega
  have x2 : (x : Int) ≤ (x : Int) + 1 := by omega
  have x3 : (x : Int) + 1 ≤ (D.cv : Int) := by omega
  have x4 : (0 : Int) ≤ (x : Int) + 1 := by omega
  have w1 : IntKind.i64.wrap ((x : Int) + 1) = (x : Int) + 1 := IntWalk.i64_in _ (by omega)
  obtain ⟨y0, y1⟩ := h.rv.get hx
  have CL := Lib.run_clear_slice (P := Try.prog) W 29 3 0 (.int .i64 0) Try.underlying29 (fun _ => rfl) rfl rfl D.v x 1 (D.cv - x) (by omega) (fun j hj => by have e : j = 0 := (by omega); rw [e, Nat.add_zero, y0]; rfl) (fun j hj => by have e : j = 0 := (by omega); rw [e, Nat.add_zero]; exact y1)
  have H := Lib.hid (h.setVal hx 0)
  have HB := Lib.hid ((BelowS.refl D.S W.heap.size W).cell (show D.S D.v from .inl rfl) x (.int .i64 0))
  clear h hx hn hk
  go_enter Try.func62, Try.ntmps62
  go_wp2_with fail
  go_end0
  exact ⟨rfl, H.out, HB.out⟩
/-- The least slot from i on, n of them, whose number is x; or -1. -/
def idxF (f : Nat → Int) (x : Int) : Nat → Nat → Int
  | _, 0 => -1
  | i, n + 1 => if x = f i then (i : Int) else idxF f x (i + 1) n
set_option maxHeartbeats 1000000 in
set_option maxRecDepth 100000 in
theorem index_any {W : World} {g n c : Nat} {f : Nat → Int} (h : RowF W g n f) (hn : n ≤ 2000) (x : Int) :
    Calls Try.prog 69 #[.slice (some ⟨g, 0, none⟩) n c, .int .i64 x] W (OkEq (.int .i64 (idxF f x 0 n)) W) := by
  have H := Lib.hid h
  have HN := Lib.hid hn
  obtain ⟨r, er⟩ : ∃ r, r = idxF f x 0 n := ⟨_, rfl⟩
  rw [← er]
  have ER := Lib.hid er
  clear h hn er
  go_enter Try.func69, Try.ntmps69
  go_wp2_with fail
  go_loopg [8] n (fun n1 i wr => ∃ k : Nat, k + n1 = n ∧ i = .int .i64 k ∧ r = idxF f x k n1 ∧ wr = W)
  case atStart => exact ⟨0, by omega, by go_num, ER.out, rfl⟩
  case round =>
    obtain ⟨k, hkn, rfl, hr, rfl⟩ := hrel
    by_cases hlt : k < n
    · obtain ⟨n', rfl⟩ : ∃ n', gk = n' + 1 := ⟨gk - 1, by omega⟩
      obtain ⟨y0, _⟩ := H.out.get hlt
      have i1 : (k : Int) < n := by omega
      have k0 : (0 : Int) ≤ k := by omega
      have w1 : IntKind.i64.wrap ((k : Int) + 1) = (k : Int) + 1 := IntWalk.i64_in _ (by have := HN.out; omega)
      unfold idxF at hr
      by_cases hx : x = f k
      · rw [if_pos hx] at hr
        have t1 : (x == f k) = true := beq_iff_eq.2 hx
        subst hr
        clear hx
        go_wp2_with fail
        go_ret
        exact ⟨rfl, rfl⟩
      · rw [if_neg hx] at hr
        have t1 : (x == f k) = false := beq_eq_false_iff_ne.2 hx
        have HR := Lib.hid hr
        clear hx hr
        go_wp2_with fail
        go_roundg n'
        case measure => omega
        case rel => exact ⟨k + 1, by omega, by go_num, HR.out, rfl⟩
    · obtain rfl : k = n := by omega
      obtain rfl : gk = 0 := by omega
      have hr2 : r = -1 := hr
      subst hr2
      go_wp2_with fail
      go_ret
      exact ⟨rfl, rfl⟩
end Go.Proofs.Ytnbniflljbbpbaa
