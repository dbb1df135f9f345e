/- links: the reference's free, end. -/
import Derived.Test.YtnbniflljbbpbaaLrBase
namespace Go.Proofs.Ytnbniflljbbpbaa
open Go.RowKit

theorem find_lt {n m : Nat} {of : Nat → List Nat} {F : LkF} (h : Rep n m of F) {i : Nat} (hi : i < m) : (of i).length ≤ n := by
  have := List.Nodup.length_le_of_subset (h.nodup i hi) (l₂ := List.range n) (fun x hx => List.mem_range.2 (h.lt i hi x hx))
  simpa using this
set_option maxHeartbeats 4000000 in
set_option maxRecDepth 100000 in
theorem rfree_any {K : Nat → Prop} {W : World} {C g gv cg cv n m : Nat} {v : Nat → Int} {of : Nat → List Nat} {F : LkF} (h : LsAt K W C g gv cg cv n m v of) (hr : Rep n m of F) (hn : n ≤ 2000) (hm : m ≤ 64) :
    Calls Try.prog 71 #[.pointer (some ⟨C, 0, none⟩)] W (OkEq (.int .i64 (freeS n m of)) W) := by
  obtain ⟨c0, c1, c2⟩ := h.cells
  have CF := Lib.hid (fun x => find_any h (by omega) (fun i hi => Nat.le_trans (find_lt hr hi) (by omega)) x)
  have HF := Lib.hid (fun k (hk : k < n) => find_free hr hk)
  have HC := Lib.hid (fun k => whr_cases m of k)
  have HN := Lib.hid hn
  obtain ⟨r, hr2⟩ : ∃ r, r = freeS n m of := ⟨_, rfl⟩
  rw [← hr2]
  have HR := Lib.hid hr2
  clear h hr hn hm hr2 c1 c2
  go_enter Try.func71, Try.ntmps71
  go_wp2_with fail
  go_loopg [3] n (fun n1 i wr => ∃ k : Nat, k + n1 = n ∧ i = .int .i64 (k : Int) ∧ wr = W ∧ r = idxF (whr m of) (-1) k n1)
  case atStart => exact ⟨0, by omega, by go_num, rfl, HR.out⟩
  case round =>
    obtain ⟨k, hkm, rfl, rfl, hrk⟩ := hrel
    obtain ⟨wx, rfl⟩ : ∃ wx : World, wx = wr := ⟨_, rfl⟩
    by_cases hlt : k < n
    · obtain ⟨n', rfl⟩ : ∃ n', gk = n' + 1 := ⟨gk - 1, by omega⟩
      have i1 : (k : Int) < n := by omega
      have w1 : IntKind.i64.wrap ((k : Int) + 1) = (k : Int) + 1 := IntWalk.i64_in _ (by have := HN.out; omega)
      have e1 := HF.out k hlt
      have C := Lib.hid (CF.out (k : Int))
      obtain ⟨a, ha⟩ : ∃ a, a = (findR of (k : Int) 0 m).1 := ⟨_, rfl⟩
      obtain ⟨b, hb⟩ : ∃ b, b = (findR of (k : Int) 0 m).2 := ⟨_, rfl⟩
      rw [← ha, ← hb] at C
      rw [← ha] at e1
      clear ha hb
      unfold idxF at hrk
      rw [← e1] at hrk
      have hcs := HC.out k
      rw [← e1] at hcs
      unfold TwoI at C
      clear e1
      rcases hcs with rfl | ⟨i, rfl⟩
      · rw [if_pos rfl] at hrk
        have HRR := Lib.hid hrk
        clear hrk
        go_wp2_with fail
        refine C.out.mono ?_
        rintro e w1 ⟨rfl, rfl⟩
        go_wp2_with fail
        go_ret
        rw [HRR.out]
        exact ⟨rfl, rfl⟩
      · rw [if_neg (by omega)] at hrk
        have HRR := Lib.hid hrk
        have t1 : ¬ (i : Int) < 0 := by omega
        clear hrk
        go_wp2_with fail
        refine C.out.mono ?_
        rintro e w1 ⟨rfl, rfl⟩
        go_wp2_with fail
        go_roundg n'
        case measure => omega
        case rel => exact ⟨k + 1, by omega, by go_num, rfl, HRR.out⟩
    · obtain rfl : k = n := by omega
      obtain rfl : gk = 0 := by omega
      have hrr : r = -1 := hrk
      have HRR := Lib.hid hrr
      clear hrr hrk
      go_wp2_with fail
      go_ret
      rw [HRR.out]
      exact ⟨rfl, rfl⟩
set_option maxHeartbeats 2000000 in
set_option maxRecDepth 100000 in
theorem rend_any {K : Nat → Prop} {W : World} {C g gv cg cv n m : Nat} {v : Nat → Int} {of : Nat → List Nat} (h : LsAt K W C g gv cg cv n m v of) {k : Nat} (hk : k < m) (front : Bool) :
    Calls Try.prog 67 #[.pointer (some ⟨C, 0, none⟩), .int .i64 (k : Int), .bool front] W (OkEq (.int .i64 (if front then 0 else ((of k).length : Int))) W) := by
  obtain ⟨c0, c1, c2⟩ := h.cells
  obtain ⟨u, u0, _, hu⟩ := h.row hk
  obtain ⟨p, c, rfl, hx⟩ := hu.form
  have i1 : (k : Int) < m := by omega
  have i2 : (0 : Int) ≤ k := by omega
  clear h hx hu
  generalize (of k).length = L at u0 ⊢
  cases front
  all_goals
    go_enter Try.func67, Try.ntmps67
    go_wp2_with fail
    go_ret
    exact ⟨rfl, rfl⟩
end Go.Proofs.Ytnbniflljbbpbaa
