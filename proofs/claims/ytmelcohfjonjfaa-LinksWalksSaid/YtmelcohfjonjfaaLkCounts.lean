/- links: countsFit. links: isIndex. -/
import Derived.Test.YtmelcohfjonjfaaLkAsk
namespace Go.Proofs.Ytmelcohfjonjfaa
open Go.RowKit

def countsR (n m : Int) : Bool := decide (1 ≤ n ∧ n ≤ 2000 ∧ 1 ≤ m ∧ m ≤ 64)
set_option maxHeartbeats 2000000 in
set_option maxRecDepth 100000 in
theorem counts_any (W : World) (n m : Int) : Calls Try.prog 38 #[.int .i64 n, .int .i64 m] W (OkEq (.bool (countsR n m)) W) := by
  obtain ⟨r, er⟩ : ∃ r, r = countsR n m := ⟨_, rfl⟩
  rw [← er]
  unfold countsR at er
  by_cases h1 : (1 : Int) ≤ n
  · by_cases h2 : n ≤ 2000
    · by_cases h3 : (1 : Int) ≤ m
      · by_cases h4 : m ≤ 64
        · have hr : r = true := by rw [er]; exact decide_eq_true ⟨h1, h2, h3, h4⟩
          subst hr; clear er
          go_enter Try.func38, Try.ntmps38
          go_wp2_with fail
          go_ret
          exact ⟨rfl, rfl⟩
        · have hr : r = false := by rw [er]; exact decide_eq_false (by omega)
          subst hr; clear er
          go_enter Try.func38, Try.ntmps38
          go_wp2_with fail
          go_ret
          exact ⟨rfl, rfl⟩
      · have hr : r = false := by rw [er]; exact decide_eq_false (by omega)
        subst hr; clear er
        go_enter Try.func38, Try.ntmps38
        go_wp2_with fail
        go_ret
        exact ⟨rfl, rfl⟩
    · have hr : r = false := by rw [er]; exact decide_eq_false (by omega)
      subst hr; clear er
      go_enter Try.func38, Try.ntmps38
      go_wp2_with fail
      go_ret
      exact ⟨rfl, rfl⟩
  · have hr : r = false := by rw [er]; exact decide_eq_false (by omega)
    subst hr; clear er
    go_enter Try.func38, Try.ntmps38
    go_wp2_with fail
    go_ret
    exact ⟨rfl, rfl⟩
end Go.Proofs.Ytmelcohfjonjfaa
namespace Go.Proofs.Ytmelcohfjonjfaa
open Go.RowKit

set_option maxHeartbeats 2000000 in
set_option maxRecDepth 100000 in
theorem isIndex_any (W : World) (i : Int) (p : Option Addr) (n c : Nat) : Calls Try.prog 78 #[.int .i64 i, .slice p n c] W (OkEq (.bool (decide (0 ≤ i ∧ i < n))) W) := by
  obtain ⟨r, er⟩ : ∃ r, r = decide (0 ≤ i ∧ i < (n : Int)) := ⟨_, rfl⟩
  rw [← er]
  by_cases h1 : 0 ≤ i
  · by_cases h2 : i < n
    · have hr : r = true := by rw [er]; exact decide_eq_true ⟨h1, h2⟩
      subst hr; clear er
      go_enter Try.func78, Try.ntmps78
      go_wp2_with fail
      go_ret
      exact ⟨rfl, rfl⟩
    · have hr : r = false := by rw [er]; exact decide_eq_false (by omega)
      subst hr; clear er
      go_enter Try.func78, Try.ntmps78
      go_wp2_with fail
      go_ret
      exact ⟨rfl, rfl⟩
  · have hr : r = false := by rw [er]; exact decide_eq_false (by omega)
    subst hr; clear er
    go_enter Try.func78, Try.ntmps78
    go_wp2_with fail
    go_ret
    exact ⟨rfl, rfl⟩
end Go.Proofs.Ytmelcohfjonjfaa
