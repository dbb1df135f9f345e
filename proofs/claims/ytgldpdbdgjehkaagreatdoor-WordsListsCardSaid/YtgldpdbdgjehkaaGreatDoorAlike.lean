/- ints, alike, fields: the statements' own comparisons. -/
import Derived.Test.YtgldpdbdgjehkaaGreatDoorList
import Derived.Deep.QuietTactic
import Derived.BigQuiet
import Derived.StillTailTactics
import Derived.IntWalk
import Derived.Laws.StructEq
namespace Go.Proofs.YtgldpdbdgjehkaaGreatDoor
open Go.RowKit Go.Shelf

/-- A slice that holds these numbers. -/
def IntsAt (W : World) (v : Value) (xs : List Int) : Prop :=
  (xs = [] ∧ ∃ p cap, v = .slice p 0 cap) ∨
  (∃ g off cap, v = .slice (some ⟨g, off, none⟩) xs.length cap ∧ g < W.heap.size ∧ ∀ j, j < xs.length → W.cell? ⟨g, off + j, none⟩ = some (.int .i64 (at0 xs j)))
theorem IntsAt.below {w w' : World} {v : Value} {xs : List Int} (h : IntsAt w v xs) (hb : Below w.heap.size w w') : IntsAt w' v xs := by
  rcases h with h | ⟨g, off, cap, e, hg, hc⟩
  · exact .inl h
  · exact .inr ⟨g, off, cap, e, Nat.lt_of_lt_of_le hg hb.size, fun j hj => (hb.cell (p := ⟨g, off + j, none⟩) hg).trans (hc j hj)⟩
theorem IntsAt.split {W : World} {v : Value} {xs : List Int} (h : IntsAt W v xs) :
    (xs = [] ∧ ∃ p cap, v = .slice p 0 cap) ∨ (0 < xs.length ∧ ∃ g off cap, v = .slice (some ⟨g, off, none⟩) xs.length cap ∧ g < W.heap.size ∧ ∀ j, j < xs.length → W.cell? ⟨g, off + j, none⟩ = some (.int .i64 (at0 xs j))) := by
  rcases h with h | ⟨g, off, cap, e, hg, hc⟩
  · exact .inl h
  · cases xs with
    | nil => exact .inl ⟨rfl, _, _, e⟩
    | cons x r => exact .inr ⟨Nat.succ_pos _, g, off, cap, e, hg, hc⟩
theorem IntsAt.len {W : World} {v : Value} {xs : List Int} (h : IntsAt W v xs) : ∃ p cap, v = .slice p xs.length cap := by
  rcases h with ⟨rfl, p, cap, e⟩ | ⟨g, off, cap, e, _⟩
  · exact ⟨p, cap, e⟩
  · exact ⟨_, cap, e⟩
theorem intCells_at0 (xs : List Int) (j : Nat) (h : j < xs.length) : (intCells xs)[j]? = some (.int .i64 (at0 xs j)) := by
  simp [intCells, at0, h]
theorem intsAt_row {W : World} {base : Nat} {v : Value} {xs : List Int} (h : W.ownsRow base 3 1 v xs.length (intCells xs)) : IntsAt W v xs := by
  obtain ⟨h1, ⟨rfl, h2⟩ | ⟨g, cap, cur, rfl, hg, hh, hc, hm, hz, ht⟩⟩ := h
  · exact .inl ⟨List.length_eq_zero_iff.1 h2, _, _, rfl⟩
  · refine .inr ⟨g, 0, cap, rfl, lt_of_block hh, fun j hj => ?_⟩
    rw [Nat.zero_add]
    refine row_cell hh ?_
    have e := intCells_at0 xs j hj
    rw [← ht, List.getElem?_take, if_pos (by omega)] at e
    rw [← Array.getElem?_toList]; exact e
theorem drewN_below (b n : Nat) (W : World) : Below b W (W.drewN n) := ⟨rfl, rfl, rfl, Nat.le_refl _, fun _ _ => rfl⟩
theorem wrap_up (k n : Nat) (h : n ≤ 281474976710656) (hk : k < n) : IntKind.i64.wrap ((k : Int) + 1) = (k : Int) + 1 := IntWalk.i64_in _ (by omega)

set_option maxHeartbeats 1000000 in
set_option maxRecDepth 100000 in
theorem ints_any (a b : Value) (xs ys : List Int) (w : World) (ha : IntsAt w a xs) (hb : IntsAt w b ys) (hx : xs.length ≤ maxLen) (hy : ys.length ≤ maxLen) :
    Calls Tryz.prog 27 #[a, b] w fun e w' => e = .returned (.bool (decide (xs = ys))) ∧ Below w.heap.size w w' := by
  unfold maxLen at hx hy
  by_cases hl : xs.length = ys.length
  · rcases ha.split with ⟨rfl, p, cap, rfl⟩ | ⟨h0, g, off, cap, rfl, hg, hc⟩
    · obtain rfl : ys = [] := List.length_eq_zero_iff.1 (by simpa using hl.symm)
      obtain ⟨q, cap', rfl⟩ := hb.len
      clear ha hb
      go_enter Tryz.func27, Tryz.ntmps27
      go_wp2_with fail
      refine wp_loop_rounds 1 ?_
      rw [rounds_succ]
      go_wp2_with fail
      go_ret
      exact ⟨rfl, Below.refl _ _⟩
    · rcases hb.split with ⟨rfl, _⟩ | ⟨_, g', off', cap', rfl, hg', hc'⟩
      · rw [hl] at h0; exact absurd h0 (by simp)
      have HC := Lib.hid hc; have HC' := Lib.hid hc'; clear hc hc' ha hb
      have hl' : ((xs.length : Int) != ys.length) = false := by simp [hl]
      go_enter Tryz.func27, Tryz.ntmps27
      go_wp2_with fail
      go_loopw [5] (fun i wr => ∃ k : Nat, k ≤ xs.length ∧ i = .int .i64 k ∧ xs.take k = ys.take k ∧ Below w.heap.size w wr) (fun i _ => xs.length - (intOf i).toNat)
      case atStart => exact ⟨0, Nat.zero_le _, rfl, rfl, Below.refl _ _⟩
      case round =>
        obtain ⟨k, hk, rfl, hall, hbw⟩ := hrel
        have HA := Lib.hid hall; have HB := Lib.hid hbw; clear hall hbw
        by_cases hlt : k < xs.length
        · have c0 := (HB.out.cell (p := ⟨g, off + k, none⟩) hg).trans (HC.out k hlt)
          have c1 := (HB.out.cell (p := ⟨g', off' + k, none⟩) hg').trans (HC'.out k (by omega))
          have e0 := at0_get xs k hlt
          have e1 := at0_get ys k (by omega)
          generalize at0 xs k = x at c0 e0
          generalize at0 ys k = y at c1 e1
          have i0 : (k : Int) < xs.length := by omega
          have i1 : (k : Int) < ys.length := by omega
          have E0 := Lib.hid e0; have E1 := Lib.hid e1; clear e0 e1
          by_cases hxy : x = y
          · have hne : (x != y) = false := by simp [hxy]
            go_wp2_with fail
            go_quiet (fail)
            go_wp2_with fail
            refine ⟨⟨k + 1, by omega, by go_num, ?_, ?_⟩, by simp [intOf]; omega⟩
            · rw [take_snoc' xs k hlt, take_snoc' ys k (by omega), HA.out, ← E0.out, ← E1.out, hxy]
            · exact HB.out.trans (drewN_below _ _ _)
          · have hne : (x != y) = true := by simp [hxy]
            go_wp2_with fail
            go_quiet (fail)
            go_wp2_with fail
            go_ret
            refine ⟨ret_bool ?_, HB.out.trans (drewN_below _ _ _)⟩
            symm; rw [decide_eq_false_iff_not]; intro e
            subst e; exact hxy (E0.out.trans E1.out.symm)
        · go_wp2_with fail
          go_ret
          obtain rfl : k = xs.length := by omega
          have := HA.out
          rw [List.take_length, hl, List.take_length] at this
          exact ⟨ret_bool (by simp [this]), HB.out⟩
  · have hne : ((xs.length : Int) != ys.length) = true := by simp; omega
    have hd : decide (xs = ys) = false := by rw [decide_eq_false_iff_not]; intro e; exact hl (congrArg List.length e)
    obtain ⟨p, cap, rfl⟩ := ha.len
    obtain ⟨q, cap', rfl⟩ := hb.len
    clear ha hb
    rw [hd]
    clear hd
    go_enter Tryz.func27, Tryz.ntmps27
    go_wp2_with fail
    go_ret
    exact ⟨rfl, Below.refl _ _⟩

/-- A slice that holds these fields (of the program, or of the reference). -/
def FldsAt (W : World) (v : Value) (fs : List Fld) : Prop :=
  (fs = [] ∧ ∃ p cap, v = .slice p 0 cap) ∨
  (0 < fs.length ∧ ∃ g off cap, v = .slice (some ⟨g, off, none⟩) fs.length cap ∧ g < W.heap.size ∧ ∀ j (h : j < fs.length), W.cell? ⟨g, off + j * 2, none⟩ = some (.bool fs[j].1) ∧ W.cell? ⟨g, off + j * 2 + 1, none⟩ = some (.string ⟨fs[j].2.toArray⟩))
theorem FldsAt.below {w w' : World} {v : Value} {fs : List Fld} (h : FldsAt w v fs) (hb : Below w.heap.size w w') : FldsAt w' v fs := by
  rcases h with h | ⟨h0, g, off, cap, e, hg, hc⟩
  · exact .inl h
  · exact .inr ⟨h0, g, off, cap, e, Nat.lt_of_lt_of_le hg hb.size, fun j hj => ⟨(hb.cell (p := ⟨g, off + j * 2, none⟩) hg).trans (hc j hj).1, (hb.cell (p := ⟨g, off + j * 2 + 1, none⟩) hg).trans (hc j hj).2⟩⟩
theorem FldsAt.len {W : World} {v : Value} {fs : List Fld} (h : FldsAt W v fs) : ∃ p cap, v = .slice p fs.length cap := by
  rcases h with ⟨rfl, p, cap, e⟩ | ⟨_, g, off, cap, e, _⟩
  · exact ⟨p, cap, e⟩
  · exact ⟨_, cap, e⟩
theorem fldCells_at (fs : List Fld) : ∀ j (h : j < fs.length), (fldCells fs)[j * 2]? = some (.bool fs[j].1) ∧ (fldCells fs)[j * 2 + 1]? = some (.string ⟨fs[j].2.toArray⟩) := by
  induction fs with
  | nil => intro j h; exact absurd h (Nat.not_lt_zero _)
  | cons f r ih =>
    intro j h
    cases j with
    | zero => exact ⟨rfl, rfl⟩
    | succ j =>
      have e := ih j (Nat.lt_of_succ_lt_succ h)
      rw [show (j + 1) * 2 = j * 2 + 1 + 1 by omega]
      exact e
theorem fldsAt_row {W : World} {base : Nat} {t : TypeId} {v : Value} {fs : List Fld} (h : W.ownsRow base t 2 v fs.length (fldCells fs)) : FldsAt W v fs := by
  obtain ⟨h1, ⟨rfl, h2⟩ | ⟨g, cap, cur, rfl, hg, hh, hc, hm, hz, ht⟩⟩ := h
  · exact .inl ⟨List.length_eq_zero_iff.1 h2, _, _, rfl⟩
  · cases fs with
    | nil => exact .inl ⟨rfl, _, _, rfl⟩
    | cons f r =>
      refine .inr ⟨Nat.succ_pos _, g, 0, cap, rfl, lt_of_block hh, fun j hj => ?_⟩
      obtain ⟨e0, e1⟩ := fldCells_at (f :: r) j hj
      rw [← ht, List.getElem?_take, if_pos (by omega), Array.getElem?_toList] at e0 e1
      simp only [Nat.zero_add]
      exact ⟨row_cell hh e0, row_cell hh e1⟩

set_option maxHeartbeats 1000000 in
set_option maxRecDepth 100000 in
theorem alike_any (a b : Value) (xs ys : List Fld) (w : World) (ha : FldsAt w a xs) (hb : FldsAt w b ys) (hx : xs.length ≤ maxLen) (hy : ys.length ≤ maxLen) :
    Calls Tryz.prog 38 #[a, b] w fun e w' => e = .returned (.bool (decide (xs = ys))) ∧ Below w.heap.size w w' := by
  unfold maxLen at hx hy
  by_cases hl : xs.length = ys.length
  · rcases ha with ⟨rfl, p, cap, rfl⟩ | ⟨h0, g, off, cap, rfl, hg, hc⟩
    · obtain rfl : ys = [] := List.length_eq_zero_iff.1 (by simpa using hl.symm)
      obtain ⟨q, cap', rfl⟩ := hb.len
      clear hb
      go_enter Tryz.func38, Tryz.ntmps38
      go_wp2_with fail
      refine wp_loop_rounds 1 ?_
      rw [rounds_succ]
      go_wp2_with fail
      go_ret
      exact ⟨rfl, Below.refl _ _⟩
    · rcases hb with ⟨rfl, _⟩ | ⟨_, g', off', cap', rfl, hg', hc'⟩
      · rw [hl] at h0; exact absurd h0 (by simp)
      have HC := Lib.hid hc; have HC' := Lib.hid hc'; clear hc hc'
      have hl' : ((xs.length : Int) != ys.length) = false := by simp [hl]
      go_enter Tryz.func38, Tryz.ntmps38
      go_wp2_with fail
      go_loopw [5] (fun i wr => ∃ k : Nat, k ≤ xs.length ∧ i = .int .i64 k ∧ xs.take k = ys.take k ∧ Below w.heap.size w wr) (fun i _ => xs.length - (intOf i).toNat)
      case atStart => exact ⟨0, Nat.zero_le _, rfl, rfl, Below.refl _ _⟩
      case round =>
        obtain ⟨k, hk, rfl, hall, hbw⟩ := hrel
        have HA := Lib.hid hall; have HB := Lib.hid hbw; clear hall hbw
        by_cases hlt : k < xs.length
        · have hlt' : k < ys.length := by omega
          have c0 := (HB.out.cell (p := ⟨g, off + k * 2, none⟩) hg).trans (HC.out k hlt).1
          have c1 := (HB.out.cell (p := ⟨g, off + k * 2 + 1, none⟩) hg).trans (HC.out k hlt).2
          have d0 := (HB.out.cell (p := ⟨g', off' + k * 2, none⟩) hg').trans (HC'.out k hlt').1
          have d1 := (HB.out.cell (p := ⟨g', off' + k * 2 + 1, none⟩) hg').trans (HC'.out k hlt').2
          obtain ⟨⟨xq, xt⟩, e0⟩ : ∃ p, xs[k] = p := ⟨_, rfl⟩
          obtain ⟨⟨yq, yt⟩, e1⟩ : ∃ p, ys[k] = p := ⟨_, rfl⟩
          rw [e0] at c0 c1
          rw [e1] at d0 d1
          simp only at c0 c1 d0 d1
          have i0 : (k : Int) < xs.length := by omega
          have i1 : (k : Int) < ys.length := by omega
          have E0 := Lib.hid e0; have E1 := Lib.hid e1; clear e0 e1
          by_cases hq : xq = yq
          · by_cases ht : xt = yt
            · go_wp2_with fail
              go_quiet (fail)
              go_wp2_with fail
              refine ⟨⟨k + 1, by omega, by go_num, ?_, ?_⟩, by simp [intOf]; omega⟩
              · rw [take_snoc' xs k hlt, take_snoc' ys k (by omega), HA.out, E0.out, E1.out, hq, ht]
              · exact HB.out.trans (drewN_below _ _ _)
            · go_wp2_with fail
              go_quiet (fail)
              go_wp2_with fail
              go_ret
              refine ⟨ret_bool ?_, HB.out.trans (drewN_below _ _ _)⟩
              symm; rw [decide_eq_false_iff_not]; intro e
              subst e; have e := E0.out.symm.trans E1.out; cases e; exact ht rfl
          · go_wp2_with fail
            go_quiet (fail)
            go_wp2_with fail
            go_ret
            refine ⟨ret_bool ?_, HB.out.trans (drewN_below _ _ _)⟩
            symm; rw [decide_eq_false_iff_not]; intro e
            subst e; have e := E0.out.symm.trans E1.out; cases e; exact hq rfl
        · go_wp2_with fail
          go_ret
          obtain rfl : k = xs.length := by omega
          have := HA.out
          rw [List.take_length, hl, List.take_length] at this
          exact ⟨ret_bool (by simp [this]), HB.out⟩
  · have hne : ((xs.length : Int) != ys.length) = true := by simp; omega
    have hd : decide (xs = ys) = false := by rw [decide_eq_false_iff_not]; intro e; exact hl (congrArg List.length e)
    obtain ⟨p, cap, rfl⟩ := ha.len
    obtain ⟨q, cap', rfl⟩ := hb.len
    clear ha hb
    rw [hd]
    clear hd
    go_enter Tryz.func38, Tryz.ntmps38
    go_wp2_with fail
    go_ret
    exact ⟨rfl, Below.refl _ _⟩
end Go.Proofs.YtgldpdbdgjehkaaGreatDoor
