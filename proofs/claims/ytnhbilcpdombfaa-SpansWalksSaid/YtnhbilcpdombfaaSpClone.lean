/- spans: slices.Clone. -/
import Derived.Test.YtnhbilcpdombfaaSpFirst
import Derived.Lib.SliceRun
namespace Go.Proofs.Ytnhbilcpdombfaa
open Go.RowKit

theorem SpC_get : ∀ (s : List (Nat × Nat)) j (hj : j < s.length), (SpC s)[j * 2]? = some (.int .i64 ((s[j]'hj).1 : Int)) ∧ (SpC s)[j * 2 + 1]? = some (.int .i64 ((s[j]'hj).2 : Int)) := by
  intro s
  induction s with
  | nil => intro j hj; simp at hj
  | cons x s ih =>
    intro j hj
    have e : SpC (x :: s) = .int .i64 (x.1 : Int) :: .int .i64 (x.2 : Int) :: SpC s := by simp [SpC]
    rw [e]
    cases j with
    | zero => exact ⟨rfl, rfl⟩
    | succ j =>
      have := ih j (by simpa using hj)
      rw [show (j + 1) * 2 = j * 2 + 1 + 1 by omega]
      exact this
set_option maxHeartbeats 4000000 in
set_option maxRecDepth 100000 in
theorem clone_any (s : List (Nat × Nat)) (p : Option Addr) (cap : Nat) (w : World) (h : SpsAt w p (up s)) (hl : s.length ≤ 2100) :
    Calls Try.prog 67 #[.slice p s.length cap] w (SpsPost s w) := by
  cases p with
  | none =>
    have hs : s = [] := by
      rcases Nat.eq_zero_or_pos s.length with h0 | h0
      · exact List.length_eq_zero_iff.1 h0
      · obtain ⟨g, off, e, _⟩ := h.at_ (by rw [up_len]; exact h0)
        cases e
    subst hs
    have q22 : ∀ (w : World) (a : Option Addr) (n c n' c' : Nat), (binOp .eql 22 (.slice a n c) (.slice none n' c')).run Try.prog w = .ok (.bool a.isNone) w := fun w a n c n' c' => Lib.run_eql_slice_nil w _ _ a n c n' c' Try.underlying22
    go_enter Try.func67, Try.ntmps67
    go_wp2_with fail
    go_ret
    exact ⟨_, rfl, Below.refl _ _, World.ownsRow_nil _ _ _ _⟩
  | some a =>
    obtain ⟨i0, hi, hz0, hz1, hz2⟩ := info_parts info_span
    have HIN := Lib.hid hi; have HZ0 := Lib.hid hz0; have HZ1 := Lib.hid hz1; have HZ2 := Lib.hid hz2
    have q22 : ∀ (w : World) (a : Option Addr) (n c n' c' : Nat), (binOp .eql 22 (.slice a n c) (.slice none n' c')).run Try.prog w = .ok (.bool a.isNone) w := fun w a n c n' c' => Lib.run_eql_slice_nil w _ _ a n c n' c' Try.underlying22
    have hcells : ∀ W, Below w.heap.size w W → ∀ j u, (SpC s)[j]? = some u → W.cell? (a.add j) = some u := by
      intro W hW j u hj
      have hjl : j < s.length * 2 := by rw [← SpC_len]; exact (List.getElem?_eq_some_iff.1 hj).1
      obtain ⟨g, off, e, hg, hc⟩ := h.at_ (by rw [up_len]; omega)
      cases e
      obtain ⟨h0, h1⟩ := hc (j / 2) (by rw [up_len]; omega)
      rw [up_get] at h0 h1
      obtain ⟨g0, g1⟩ := SpC_get s (j / 2) (by omega)
      rw [WideShapes.add_plain]
      rcases Nat.mod_two_eq_zero_or_one j with hm | hm
      · have e2 : j / 2 * 2 = j := by omega
        rw [e2] at h0 g0
        rw [g0] at hj; cases hj
        exact (hW.cell (p := ⟨g, off + j, none⟩) hg).trans h0
      · have e2 : j / 2 * 2 + 1 = j := by omega
        rw [Nat.add_assoc, e2] at h1
        rw [e2] at g1
        rw [g1] at hj; cases hj
        exact (hW.cell (p := ⟨g, off + j, none⟩) hg).trans h1
    have h1c : ∀ u ∈ SpC s, u.oneCell' = true := by
      intro u hu
      obtain ⟨x, _, hx⟩ := List.mem_flatMap.1 hu
      exact two_onecell _ _ u hx
    have HCE := Lib.hid hcells; have H1C := Lib.hid h1c
    clear hi hz0 hz1 hz2 h hcells h1c
    go_enter Try.func67, Try.ntmps67
    go_wp2_with (at_builtin; refine wpList_append_own _ rfl _ _ 22 rfl w.heap.size 31 i0 (.agg #[.int .i64 0, .int .i64 0]) 2 16 Try.underlying22 HIN.out HZ0.out HZ1.out HZ2.out rfl (by decide) _ _ _ rfl (World.ownsRow_made w #[] 0 (Nat.le_refl _) (Nat.zero_le _) rfl) a s.length cap (SpC s) rfl (SpC_len s) (HCE.out _ ((Below.refl _ _).alloc (Nat.le_refl _) _)) H1C.out (by unfold maxLen; omega) (by omega) (by simp) ?_; intro v4 w4 hown4 hgrow4 hnil4)
    go_ret
    exact ⟨_, rfl, ((Below.refl _ w).alloc (Nat.le_refl _) _).grown hgrow4 (by simp) (by intro k hk; cases hk; exact Nat.le_refl _), by simpa using hown4⟩
end Go.Proofs.Ytnhbilcpdombfaa
