/- The reference's find: what is wrong with its input. -/
import Derived.Test.YtnhbilcpdombfaaSpRPower
import Derived.Test.YtnhbilcpdombfaaSpRCheck
namespace Go.Proofs.Ytnhbilcpdombfaa
open Go.RowKit

theorem powI_eq (n : Int) : powI n = (decide (1 ≤ n ∧ n ≤ 1024) && powN n.toNat) := by
  rw [Bool.eq_iff_iff]
  unfold powI powN
  rw [List.any_eq_true, Bool.and_eq_true, decide_eq_true_eq, List.any_eq_true]
  constructor
  · rintro ⟨k, hk, e⟩
    have hk' := List.mem_range.1 hk
    rw [beq_iff_eq] at e
    have h1 : 1 ≤ 2 ^ k := Nat.one_le_two_pow
    have h2 : 2 ^ k ≤ 2 ^ 10 := Nat.pow_le_pow_right (by omega) (by omega)
    have h3 : (2 : Nat) ^ 10 = 1024 := rfl
    refine ⟨by omega, k, hk, ?_⟩
    rw [beq_iff_eq]
    omega
  · rintro ⟨h, k, hk, e⟩
    rw [beq_iff_eq] at e
    exact ⟨k, hk, by rw [beq_iff_eq, ← e]; omega⟩
theorem placeE_eq (s : List (Int × Int)) (pages align : Int) : placeE s pages align = if checkR s ≠ 0 then checkR s else if pages < 1 ∨ 1024 < pages then 2 else if powI align then 0 else 2 := by
  unfold placeE
  by_cases h1 : checkR s ≠ 0
  · rw [if_pos h1, if_pos h1]
  · rw [if_neg h1, if_neg h1]
    by_cases h2 : pages < 1 ∨ 1024 < pages
    · rw [if_pos h2, if_pos h2]
    · rw [if_neg h2, if_neg h2, powI_eq]
      by_cases h3 : align < 1 ∨ 1024 < align
      · have h4 : ¬ (1 ≤ align ∧ align ≤ 1024) := by omega
        rw [if_pos h3, decide_eq_false h4]; rfl
      · have h4 : 1 ≤ align ∧ align ≤ 1024 := by omega
        rw [if_neg h3, decide_eq_true h4, Bool.true_and]
/-- The span that a search has found so far. -/
def stepX (best : Bool) (pages align : Nat) (st : Option (Nat × Nat)) (x : Nat × Nat) : Option (Nat × Nat) :=
  if fitsP pages align x then
    match st with
    | none => some x
    | some y => if best && decide (x.2 < y.2) then some x else some y
  else st
def foundX (best : Bool) (pages align : Nat) (s : List (Nat × Nat)) : Option (Nat × Nat) := s.foldl (stepX best pages align) none
def foundR (align : Nat) : Option (Nat × Nat) → Int × Int
  | none => (0, 4)
  | some y => ((atP align y : Int), 0)
theorem first_stays (pages align : Nat) (y : Nat × Nat) : ∀ s : List (Nat × Nat), s.foldl (stepX false pages align) (some y) = some y
  | [] => rfl
  | x :: s => by
    rw [List.foldl_cons]
    have : stepX false pages align (some y) x = some y := by unfold stepX; split <;> rfl
    rw [this, first_stays pages align y s]
/-- Without best it is the first span with a place. -/
theorem found_first (pages align : Nat) : ∀ s : List (Nat × Nat), foundX false pages align s = s.find? (fitsP pages align)
  | [] => rfl
  | x :: s => by
    have ih := found_first pages align s
    unfold foundX at ih ⊢
    rw [List.foldl_cons, List.find?_cons]
    cases h : fitsP pages align x
    · have : stepX false pages align none x = none := by unfold stepX; rw [h]; rfl
      rw [this, ih]
    · have : stepX false pages align none x = some x := by unfold stepX; rw [h]; rfl
      rw [this, first_stays]
theorem firstL_found (pages align : Nat) (s : List (Nat × Nat)) : firstL pages align s = foundR align (foundX false pages align s) := by
  rw [found_first]; unfold firstL
  cases s.find? (fitsP pages align) <;> rfl
end Go.Proofs.Ytnhbilcpdombfaa
