/- Best, and what SpansLeast says of it: plain mathematics. -/
import Derived.Test.YtnhbilcpdombfaaSpRFind
namespace Go.Proofs.Ytnhbilcpdombfaa
open Go.RowKit

theorem found_snoc (best : Bool) (pages align : Nat) (s : List (Nat × Nat)) (x : Nat × Nat) : foundX best pages align (s ++ [x]) = stepX best pages align (foundX best pages align s) x := by simp [foundX]
theorem fold_filter (best : Bool) (pages align : Nat) : ∀ (s : List (Nat × Nat)) (st : Option (Nat × Nat)), (s.filter (fitsP pages align)).foldl (stepX best pages align) st = s.foldl (stepX best pages align) st
  | [], _ => rfl
  | x :: s, st => by
    cases h : fitsP pages align x
    · rw [List.filter_cons, h, if_neg (by simp), fold_filter best pages align s, List.foldl_cons]
      congr 1
      unfold stepX; rw [h]; rfl
    · rw [List.filter_cons, h, if_pos rfl, List.foldl_cons, List.foldl_cons, fold_filter best pages align s]
theorem found_filter (best : Bool) (pages align : Nat) (s : List (Nat × Nat)) : foundX best pages align (s.filter (fitsP pages align)) = foundX best pages align s := fold_filter best pages align s none
/-- What Best's two variables hold. -/
def bestS (align : Nat) : Option (Nat × Nat) → Nat × Nat
  | none => (0, 1025)
  | some y => (atP align y, y.2)
theorem bestS_step {pages align : Nat} {x : Nat × Nat} (hf : fitsP pages align x = true) (hx : x.2 ≤ 1024) (st : Option (Nat × Nat)) :
    bestS align (stepX true pages align st x) = if x.2 < (bestS align st).2 then (atP align x, x.2) else bestS align st := by
  unfold stepX
  rw [if_pos hf]
  cases st with
  | none => show (atP align x, x.2) = if x.2 < 1025 then (atP align x, x.2) else (0, 1025); rw [if_pos (by omega)]
  | some y =>
    show bestS align (if (true && decide (x.2 < y.2)) then some x else some y) = if x.2 < y.2 then (atP align x, x.2) else (atP align y, y.2)
    by_cases h : x.2 < y.2 <;> simp [h, bestS]
/-- What a search finds is one of the spans that have a place, and with best none of these has fewer pages. -/
theorem found_is (best : Bool) (pages align : Nat) : ∀ (s : List (Nat × Nat)) (st : Option (Nat × Nat)) (y : Nat × Nat), s.foldl (stepX best pages align) st = some y →
    (st = some y ∨ (y ∈ s ∧ fitsP pages align y = true))
  | [], _, _, h => .inl h
  | x :: s, st, y, h => by
    rw [List.foldl_cons] at h
    rcases found_is best pages align s _ y h with h1 | ⟨h1, h2⟩
    · unfold stepX at h1
      cases hf : fitsP pages align x
      · rw [hf, if_neg (by simp)] at h1; exact .inl h1
      · rw [hf, if_pos rfl] at h1
        cases st with
        | none => obtain rfl : x = y := by simpa using h1
                  exact .inr ⟨List.mem_cons_self .., hf⟩
        | some z =>
          simp only at h1
          by_cases hb : (best && decide (x.2 < z.2)) = true
          · rw [if_pos hb] at h1; obtain rfl : x = y := by simpa using h1
            exact .inr ⟨List.mem_cons_self .., hf⟩
          · rw [if_neg hb] at h1; exact .inl h1
    · exact .inr ⟨List.mem_cons_of_mem _ h1, h2⟩
theorem found_mem {best : Bool} {pages align : Nat} {s : List (Nat × Nat)} {y : Nat × Nat} (h : foundX best pages align s = some y) : y ∈ s ∧ fitsP pages align y = true := by
  rcases found_is best pages align s none y h with h | h
  · cases h
  · exact h
theorem found_low (pages align : Nat) : ∀ (s : List (Nat × Nat)) (st : Option (Nat × Nat)), ∃ r, s.foldl (stepX true pages align) st = r ∧ (∀ z, st = some z → ∃ y, r = some y ∧ y.2 ≤ z.2) ∧ (∀ z ∈ s, fitsP pages align z = true → ∃ y, r = some y ∧ y.2 ≤ z.2)
  | [], st => ⟨st, rfl, fun z h => ⟨z, h, Nat.le_refl _⟩, fun z h => by cases h⟩
  | x :: s, st => by
    obtain ⟨r, h1, h2, h3⟩ := found_low pages align s (stepX true pages align st x)
    have hst : ∀ z, st = some z → ∃ y, stepX true pages align st x = some y ∧ y.2 ≤ z.2 := by
      rintro z rfl
      unfold stepX
      cases hf : fitsP pages align x
      · exact ⟨z, by simp, Nat.le_refl _⟩
      · by_cases hb : x.2 < z.2
        · exact ⟨x, by simp [hb], by omega⟩
        · exact ⟨z, by simp [hb], Nat.le_refl _⟩
    have hx : fitsP pages align x = true → ∃ y, stepX true pages align st x = some y ∧ y.2 ≤ x.2 := by
      intro hf
      unfold stepX; rw [if_pos hf]
      cases st with
      | none => exact ⟨x, rfl, Nat.le_refl _⟩
      | some z =>
        by_cases hb : x.2 < z.2
        · exact ⟨x, by simp [hb], by omega⟩
        · exact ⟨z, by simp [hb], by omega⟩
    refine ⟨r, by rw [List.foldl_cons]; exact h1, fun z hz => ?_, fun z hz hf => ?_⟩
    · obtain ⟨y, hy, hl⟩ := hst z hz
      obtain ⟨y', hy', hl'⟩ := h2 y hy
      exact ⟨y', hy', by omega⟩
    · rcases List.mem_cons.1 hz with rfl | hz
      · obtain ⟨y, hy, hl⟩ := hx hf
        obtain ⟨y', hy', hl'⟩ := h2 y hy
        exact ⟨y', hy', by omega⟩
      · exact h3 z hz hf
theorem found_least {pages align : Nat} {s : List (Nat × Nat)} {z : Nat × Nat} (hz : z ∈ s) (hf : fitsP pages align z = true) : ∃ y, foundX true pages align s = some y ∧ y.2 ≤ z.2 := by
  obtain ⟨r, h1, _, h3⟩ := found_low pages align s none
  obtain ⟨y, hy, hl⟩ := h3 z hz hf
  exact ⟨y, h1.trans hy, hl⟩
/-- What Best returns, in its variables' words. -/
theorem best_ends {pages align : Nat} {s : List (Nat × Nat)} (hs : IsSet 1024 s) :
    foundR align (foundX true pages align s) = if 1024 < (bestS align (foundX true pages align s)).2 then (0, 4) else (((bestS align (foundX true pages align s)).1 : Int), 0) := by
  cases h : foundX true pages align s with
  | none => rfl
  | some y =>
    have := (hs.run y (found_mem h).1).2
    show ((atP align y : Int), (0 : Int)) = if 1024 < y.2 then (0, 4) else ((atP align y : Int), 0)
    rw [if_neg (by omega)]
/-- A place: so many pages from p on lie in one span, and p is a multiple. -/
def isP (s : List (Nat × Nat)) (m al p : Nat) : Bool := s.any (fun y => decide (y.1 ≤ p) && decide (p + m ≤ y.1 + y.2)) && decide (p % al = 0)
def withinN (s : List (Nat × Nat)) (p : Nat) : Nat := match s.find? (fun y => decide (y.1 ≤ p) && decide (p < y.1 + y.2)) with
  | some y => y.2
  | none => 0
theorem within_is {s : List (Nat × Nat)} (hs : IsSet 1024 s) {y : Nat × Nat} (hy : y ∈ s) {p : Nat} (h1 : y.1 ≤ p) (h2 : p < y.1 + y.2) : withinN s p = y.2 := by
  unfold withinN
  induction s with
  | nil => cases hy
  | cons x s ih =>
    rw [List.find?_cons]
    by_cases hx : (decide (x.1 ≤ p) && decide (p < x.1 + x.2)) = true
    · rw [hx]
      rcases List.mem_cons.1 hy with rfl | hy
      · rfl
      · have := (List.pairwise_cons.1 hs.gap).1 y hy
        simp at hx; omega
    · rw [Bool.not_eq_true] at hx
      rw [hx]
      rcases List.mem_cons.1 hy with rfl | hy
      · simp at hx; omega
      · exact ih ⟨fun z hz => hs.run z (List.mem_cons_of_mem _ hz), (List.pairwise_cons.1 hs.gap).2⟩ hy
theorem isP_fits {s : List (Nat × Nat)} {m al p : Nat} (hal : 1 ≤ al) (h : isP s m al p = true) : ∃ z ∈ s, fitsP m al z = true ∧ z.1 ≤ p ∧ p + m ≤ z.1 + z.2 ∧ atP al z ≤ p := by
  unfold isP at h
  rw [Bool.and_eq_true, List.any_eq_true, decide_eq_true_eq] at h
  obtain ⟨⟨z, hz, hc⟩, hm⟩ := h
  simp at hc
  have ha := (at_facts hal z).2.2.2 p hc.1 hm
  refine ⟨z, hz, ?_, hc.1, hc.2, ha⟩
  unfold fitsP; simp; omega
theorem fits_isP {s : List (Nat × Nat)} {m al : Nat} (hal : 1 ≤ al) {y : Nat × Nat} (hy : y ∈ s) (hf : fitsP m al y = true) : isP s m al (atP al y) = true := by
  obtain ⟨h1, h2, _, _⟩ := at_facts hal y
  unfold isP
  rw [Bool.and_eq_true, List.any_eq_true, decide_eq_true_eq]
  refine ⟨⟨y, hy, ?_⟩, h2⟩
  unfold fitsP at hf; simp at hf ⊢
  exact ⟨h1, hf⟩
theorem least_none {best : Bool} {s : List (Nat × Nat)} {m al p : Nat} (hal : 1 ≤ al) (h : foundX best m al s = none) : isP s m al p = false := by
  rw [← Bool.not_eq_true]
  intro hp
  obtain ⟨z, hz, hf, _⟩ := isP_fits hal hp
  cases best
  · rw [found_first, List.find?_eq_none] at h
    exact h z hz hf
  · obtain ⟨y, hy, _⟩ := found_least hz hf
    rw [h] at hy; cases hy
theorem found_both {s : List (Nat × Nat)} {m al : Nat} : (foundX false m al s = none ∧ foundX true m al s = none) ∨ ∃ y z, foundX false m al s = some y ∧ foundX true m al s = some z := by
  cases h : foundX false m al s with
  | none =>
    left; refine ⟨rfl, ?_⟩
    cases h2 : foundX true m al s with
    | none => rfl
    | some z =>
      obtain ⟨hz, hf⟩ := found_mem h2
      rw [found_first, List.find?_eq_none] at h
      exact absurd hf (h z hz)
  | some y =>
    right
    obtain ⟨hy, hf⟩ := found_mem h
    obtain ⟨z, hz, _⟩ := found_least hy hf
    exact ⟨y, z, rfl, hz⟩
theorem find_first {P : Nat × Nat → Bool} : ∀ {s : List (Nat × Nat)} {y z : Nat × Nat}, s.Pairwise (fun x y => x.1 + x.2 < y.1) → s.find? P = some y → z ∈ s → P z = true → y = z ∨ y.1 + y.2 < z.1
  | [], _, _, _, h, _, _ => by cases h
  | x :: s, y, z, hp, h, hz, hP => by
    rw [List.find?_cons] at h
    cases hx : P x
    · rw [hx] at h
      rcases List.mem_cons.1 hz with rfl | hz
      · rw [hx] at hP; cases hP
      · exact find_first (List.pairwise_cons.1 hp).2 h hz hP
    · rw [hx] at h
      obtain rfl : x = y := by simpa using h
      rcases List.mem_cons.1 hz with rfl | hz
      · exact .inl rfl
      · exact .inr ((List.pairwise_cons.1 hp).1 z hz)
theorem least_some {s : List (Nat × Nat)} (hs : IsSet 1024 s) {m al p : Nat} (hm : 1 ≤ m) (hal : 1 ≤ al) {y z : Nat × Nat} (h1 : foundX false m al s = some y) (h2 : foundX true m al s = some z) (hp : isP s m al p = true) :
    atP al y ≤ p ∧ withinN s (atP al z) ≤ withinN s p := by
  obtain ⟨x, hx, hf, hx1, hx2, hx3⟩ := isP_fits hal hp
  obtain ⟨hy, hfy⟩ := found_mem h1
  obtain ⟨hz, hfz⟩ := found_mem h2
  constructor
  · rw [found_first] at h1
    rcases find_first hs.gap h1 hx hf with rfl | h
    · exact hx3
    · unfold fitsP at hfy; simp at hfy; omega
  · obtain ⟨z', hz', hl⟩ := found_least hx hf
    rw [h2] at hz'; cases hz'
    have ha := (at_facts hal z).1
    have hfz' := hfz
    unfold fitsP at hfz'; simp at hfz'
    rw [within_is hs hx hx1 (by omega), within_is hs hz ha (by omega)]
    exact hl
end Go.Proofs.Ytnhbilcpdombfaa
