/- canonical and List at the empty list. -/
import Derived.Test.YtgldpdbdgjehkaaGreatDoorList
namespace Go.Proofs.YtgldpdbdgjehkaaGreatDoor
open Go.RowKit Go.Shelf

/-- A slice that holds these numbers (its capacity known to be enough). -/
def IntsAtL (W : World) (v : Value) (l : List Int) : Prop :=
  (l = [] ∧ ∃ p cap, v = .slice p 0 cap) ∨
  (0 < l.length ∧ ∃ g off cap, v = .slice (some ⟨g, off, none⟩) l.length cap ∧ g < W.heap.size ∧ l.length ≤ cap ∧ ∀ j, j < l.length → W.cell? ⟨g, off + j, none⟩ = some (.int .i64 (at0 l j)))
set_option maxHeartbeats 1000000 in
set_option maxRecDepth 100000 in
theorem canonical_nil (p : Option Addr) (cap : Nat) (w : World) : Calls Tryz.prog 54 #[.slice p 0 cap] w (CanonPost [] w) := by
  have hmk : ∀ W : World, (Instr.makeSlice 58 (.int .i64 1) (.int .i64 1)).run Tryz.prog W = .ok (.slice (some ⟨W.heap.size, 0, none⟩) 1 1) (W.alloc (.cells #[.string ⟨#[]⟩] 9)) := fun W => by
    have h := run_make_row' (P := Tryz.prog) 58 9 (.string ⟨#[]⟩) 16 Tryz.underlying58 info_string rfl .i64 .i64 (0 + 1) (by omega) (by omega) W
    rw [← rowC_rep] at h
    exact h
  go_enter Tryz.func54, Tryz.ntmps54
  go_wp2_with fail
  refine wp_loop_rounds 1 ?_
  rw [rounds_succ]
  go_wp2_with fail
  go_ret
  exact ⟨rfl, ((((Below.refl _ _).alloc (Nat.le_refl _) _).alloc (by simp) _).alloc (by simp; omega) _).alloc (by simp; omega) _⟩

set_option maxHeartbeats 1000000 in
theorem list_nil (p : Option Addr) (cap : Nat) (w : World) : Calls Tryz.prog 23 #[.slice p 0 cap] w (ListPost [] w) := by
  have HC := Lib.hid (fun W => canonical_nil p cap W)
  go_enter Tryz.func23, Tryz.ntmps23
  go_wp2_with fail
  refine wp_loop_rounds 1 ?_
  rw [rounds_succ]
  go_wp2_with (go_at_call 54; refine (HC.out _).mono ?_; rintro e w' ⟨rfl, hb⟩)
  go_ret2
  exact ⟨rfl, hb⟩
/-- List at a slice that holds these numbers. -/
theorem list_any (v : Value) (l : List Int) (w : World) (he : Env w) (h : IntsAtL w v l) (hlm : l.length ≤ maxLen) : Calls Tryz.prog 23 #[v] w (ListPost l w) := by
  rcases h with ⟨rfl, p, cap, rfl⟩ | ⟨h0, g, off, cap, rfl, hg, hcap, hc⟩
  · exact list_nil p cap w
  · exact list_some g off cap l w he h0 hlm hcap hg hc
end Go.Proofs.YtgldpdbdgjehkaaGreatDoor
