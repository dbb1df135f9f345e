/- Plain facts on runs: where they are, and what Fit and Best find. -/
import Derived.Test.YtocgdibadcmnfaaDoorBtBlock
namespace Go.Proofs.YtocgdibadcmnfaaDoor
open Go

/-- A maximal run from a on. -/
structure IsRun (f : Nat → Bool) (on : Bool) (m a : Nat) (r : Nat × Nat) : Prop where
  lo : a ≤ r.1
  lt : r.1 < r.2
  hi : r.2 ≤ m
  all : ∀ i, r.1 ≤ i → i < r.2 → f i = on
  end_ : r.2 = m ∨ f r.2 = !on
  begin_ : r.1 = a ∨ f (r.1 - 1) = !on
theorem next_skip {f : Nat → Bool} {on : Bool} {a m i : Nat} (h1 : a ≤ i) (h2 : i < nextN (fromB f on a) m) : f i = !on := by
  have hp : fromB f on a i = false := by
    rcases nextN_cases (fromB f on a) m with ⟨_, _, h, _⟩ | ⟨e, h, _⟩
    · exact h i h2
    · exact h i (by omega)
  unfold fromB onB at hp
  have hd : decide (a ≤ i) = true := by simp [h1]
  rw [hd, Bool.true_and, beq_eq_false_iff_ne] at hp
  cases hf : f i <;> cases on <;> simp_all
theorem runsF_spec (f : Nat → Bool) (on : Bool) (m : Nat) : ∀ k a : Nat, a ≤ m → m + 1 ≤ k + a →
    (∀ r ∈ runsF f on m k a, IsRun f on m a r) ∧ (∀ i, a ≤ i → i < m → f i = on → ∃ r ∈ runsF f on m k a, r.1 ≤ i ∧ i < r.2) ∧ (runsF f on m k a).Pairwise (fun r r' => r.2 < r'.1)
  | 0, a, h1, h2 => by omega
  | k + 1, a, h1, h2 => by
    by_cases hs : nextN (fromB f on a) m < m
    · obtain ⟨g1, g2⟩ := nextN_from hs
      have hsk := fun i h1 h2 => next_skip (f := f) (on := on) (a := a) (m := m) (i := i) h1 h2
      have hg := run_good hs g2
      have e : runsF f on m (k + 1) a = (nextN (fromB f on a) m, nextN (fromB f (!on) (nextN (fromB f on a) m)) m) :: runsF f on m k (nextN (fromB f (!on) (nextN (fromB f on a) m)) m) := by rw [runsF, if_pos hs]
      rw [e]
      generalize nextN (fromB f on a) m = s at hs g1 g2 hg hsk
      have hst := fun i h1 h2 => next_skip (f := f) (on := !on) (a := s) (m := m) (i := i) h1 h2
      have ht2 : nextN (fromB f (!on) s) m = m ∨ f (nextN (fromB f (!on) s) m) = !on := by
        by_cases h : nextN (fromB f (!on) s) m < m
        · exact .inr (nextN_from h).2
        · left; omega
      generalize nextN (fromB f (!on) s) m = t at hg hst ht2
      obtain ⟨i1, i2, i3⟩ := runsF_spec f on m k t hg.2 (by omega)
      have hon : (!(!on)) = on := by cases on <;> rfl
      refine ⟨?_, ?_, ?_⟩
      · intro r hr
        rcases List.mem_cons.1 hr with rfl | hr
        · refine ⟨g1, hg.1, hg.2, fun i h1 h2 => by rw [hst i h1 h2, hon], ht2, ?_⟩
          by_cases h : s = a
          · exact .inl h
          · exact .inr (hsk (s - 1) (by omega) (by omega))
        · have h := i1 r hr
          refine ⟨by have := h.lo; omega, h.lt, h.hi, h.all, h.end_, ?_⟩
          rcases h.begin_ with hb | hb
          · have := h.all r.1 (Nat.le_refl _) h.lt
            rcases ht2 with h3 | h3
            · have := h.lt; have := h.hi; omega
            · rw [hb, h3] at this; cases on <;> cases this
          · exact .inr hb
      · intro i h1 h2 h3
        by_cases h4 : i < s
        · have := hsk i h1 h4; rw [h3] at this; cases on <;> cases this
        · by_cases h5 : i < t
          · exact ⟨(s, t), List.mem_cons_self .., by show s ≤ i; omega, h5⟩
          · obtain ⟨r, hr, h6, h7⟩ := i2 i (by omega) h2 h3
            exact ⟨r, List.mem_cons_of_mem _ hr, h6, h7⟩
      · refine List.pairwise_cons.2 ⟨fun r hr => ?_, i3⟩
        have h := i1 r hr
        show t < r.1
        have hl := h.lo
        by_cases h4 : r.1 = t
        · have := h.all r.1 (Nat.le_refl _) h.lt
          rcases ht2 with h3 | h3
          · have := h.lt; have := h.hi; omega
          · rw [h4, h3] at this; cases on <;> cases this
        · omega
    · rw [runsF, if_neg hs]
      refine ⟨by simp, fun i h1 h2 h3 => ?_, List.Pairwise.nil⟩
      have := next_skip (f := f) (on := on) (a := a) (m := m) (i := i) h1 (by have := nextN_le (fromB f on a) m; omega)
      rw [h3] at this; cases on <;> cases this
theorem runsL_spec (f : Nat → Bool) (on : Bool) {m a : Nat} (h : a ≤ m) :
    (∀ r ∈ runsL f on m a, IsRun f on m a r) ∧ (∀ i, a ≤ i → i < m → f i = on → ∃ r ∈ runsL f on m a, r.1 ≤ i ∧ i < r.2) ∧ (runsL f on m a).Pairwise (fun r r' => r.2 < r'.1) :=
  runsF_spec f on m (m + 1) a h (by omega)
/-- So many bits from i on are there, and clear. -/
def freeP (f : Nat → Bool) (m s i : Nat) : Bool := decide (i + s ≤ m) && clearRun f i s
theorem freeP_iff (f : Nat → Bool) (m s i : Nat) : freeP f m s i = true ↔ i + s ≤ m ∧ ∀ j, i ≤ j → j < i + s → f j = false := by
  unfold freeP; rw [Bool.and_eq_true, clearRun_iff]; simp
/-- The run in which they lie. -/
theorem free_run {f : Nat → Bool} {m a s i : Nat} (ha : a ≤ m) (h1 : a ≤ i) (hs : 1 ≤ s) (h : freeP f m s i = true) : ∃ r ∈ runsL f false m a, r.1 ≤ i ∧ i + s ≤ r.2 := by
  obtain ⟨h2, h3⟩ := (freeP_iff f m s i).1 h
  obtain ⟨g1, g2, _⟩ := runsL_spec f false ha
  obtain ⟨r, hr, h4, h5⟩ := g2 i h1 (by omega) (h3 i (Nat.le_refl _) (by omega))
  refine ⟨r, hr, h4, ?_⟩
  have hi := g1 r hr
  rcases hi.end_ with h6 | h6
  · omega
  · apply Classical.byContradiction
    intro hn
    have := h3 r.2 (by omega) (by omega)
    rw [this] at h6; cases h6
theorem run_free {f : Nat → Bool} {m a s : Nat} {r : Nat × Nat} (h : IsRun f false m a r) (hs : r.1 + s ≤ r.2) : freeP f m s r.1 = true :=
  (freeP_iff _ _ _ _).2 ⟨by have := h.hi; omega, fun j h1 h2 => h.all j h1 (by omega)⟩
theorem pairwise_find {L : List (Nat × Nat)} {p : Nat × Nat → Bool} {r : Nat × Nat} (hp : L.Pairwise (fun r r' => r.2 < r'.1)) (h : L.find? p = some r) : p r = true ∧ r ∈ L ∧ ∀ r' ∈ L, p r' = true → r' = r ∨ r.2 < r'.1 := by
  induction L with
  | nil => cases h
  | cons x L ih =>
    obtain ⟨h1, h2⟩ := List.pairwise_cons.1 hp
    rw [List.find?_cons] at h
    cases hx : p x with
    | true =>
      rw [hx] at h
      obtain rfl := Option.some.inj h
      exact ⟨hx, List.mem_cons_self .., fun r' hr' _ => (List.mem_cons.1 hr').imp id (h1 r')⟩
    | false =>
      rw [hx] at h
      obtain ⟨h3, h4, h5⟩ := ih h2 h
      refine ⟨h3, List.mem_cons_of_mem _ h4, fun r' hr' hp' => ?_⟩
      rcases List.mem_cons.1 hr' with rfl | hr'
      · rw [hx] at hp'; cases hp'
      · exact h5 r' hr' hp'
/-- What Fit finds: the first place where so many clear bits begin. -/
theorem fit_find {f : Nat → Bool} {m a s : Nat} (ha : a ≤ m) (hs : 1 ≤ s) : fitL (s : Int) (runsL f false m a) = findR (fun i => decide (a ≤ i) && freeP f m s i) m := by
  obtain ⟨g1, g2, g3⟩ := runsL_spec f false ha
  unfold fitL
  cases hf : (runsL f false m a).find? (fits s) with
  | none =>
    rw [List.find?_eq_none] at hf
    refine (findR_none fun i hi => ?_).symm
    cases hp : (decide (a ≤ i) && freeP f m s i) with
    | false => rfl
    | true =>
      simp only [Bool.and_eq_true, decide_eq_true_eq] at hp
      obtain ⟨r, hr, h1, h2⟩ := free_run ha hp.1 hs hp.2
      exact absurd (by unfold fits; simp; omega) (hf r hr)
  | some r =>
    obtain ⟨h1, h2, h3⟩ := pairwise_find g3 hf
    have hr := g1 r h2
    have hle : r.1 + s ≤ r.2 := by unfold fits at h1; simp at h1; have := hr.lt; omega
    refine (findR_some (i := r.1) (by have := hr.lt; have := hr.hi; omega) ?_ fun j hj => ?_).symm
    · have := run_free hr hle
      have hlo := hr.lo
      simp [this, hlo]
    · cases hp : (decide (a ≤ j) && freeP f m s j) with
      | false => rfl
      | true =>
        simp only [Bool.and_eq_true, decide_eq_true_eq] at hp
        obtain ⟨r', hr', h4, h5⟩ := free_run ha hp.1 hs hp.2
        rcases h3 r' hr' (by unfold fits; simp; omega) with rfl | h6
        · omega
        · have := hr.lt; omega
theorem snoc_ind {α : Type} {P : List α → Prop} (h0 : P []) (h1 : ∀ L x, P L → P (L ++ [x])) (L : List α) : P L := by
  have : ∀ R : List α, P R.reverse := by
    intro R
    induction R with
    | nil => exact h0
    | cons x R ih => rw [List.reverse_cons]; exact h1 _ _ ih
  have h := this L.reverse
  rwa [List.reverse_reverse] at h
theorem bestF_inv (size : Int) (m : Nat) : ∀ L : List (Nat × Nat), (∀ r ∈ L, (r.2 : Int) - r.1 ≤ m) → ((bestF size m L = (0, (m : Int) + 1) ∧ ∀ r ∈ L, fits size r = false) ∨
    ∃ r ∈ L, fits size r = true ∧ bestF size m L = ((r.1 : Int), (r.2 : Int) - r.1) ∧ ∀ r' ∈ L, fits size r' = true → (r.2 : Int) - r.1 ≤ (r'.2 : Int) - r'.1) := by
  intro L
  refine snoc_ind (P := fun L => (∀ r ∈ L, (r.2 : Int) - r.1 ≤ m) → ((bestF size m L = (0, (m : Int) + 1) ∧ ∀ r ∈ L, fits size r = false) ∨
    ∃ r ∈ L, fits size r = true ∧ bestF size m L = ((r.1 : Int), (r.2 : Int) - r.1) ∧ ∀ r' ∈ L, fits size r' = true → (r.2 : Int) - r.1 ≤ (r'.2 : Int) - r'.1)) ?_ ?_ L
  · exact fun _ => .inl ⟨rfl, by simp⟩
  · intro L x ih hb
    have ih := ih (fun r hr => hb r (List.mem_append.2 (.inl hr)))
    have hx := hb x (by simp)
    rw [bestF_snoc]
    unfold bestStep
    by_cases hfit : fits size x = true
    · have hfx : size ≤ (x.2 : Int) - x.1 := by unfold fits at hfit; simpa using hfit
      rcases ih with ⟨e, h1⟩ | ⟨r, hr, h1, e, h2⟩
      · rw [e, if_pos ⟨hfx, by show _ < (m : Int) + 1; omega⟩]
        refine .inr ⟨x, by simp, hfit, rfl, fun r' hr' hf' => ?_⟩
        rcases List.mem_append.1 hr' with h | h
        · rw [h1 r' h] at hf'; cases hf'
        · obtain rfl := List.mem_singleton.1 h; omega
      · rw [e]
        by_cases hlt : (x.2 : Int) - x.1 < (r.2 : Int) - r.1
        · rw [if_pos ⟨hfx, hlt⟩]
          refine .inr ⟨x, by simp, hfit, rfl, fun r' hr' hf' => ?_⟩
          rcases List.mem_append.1 hr' with h | h
          · have := h2 r' h hf'; omega
          · obtain rfl := List.mem_singleton.1 h; omega
        · rw [if_neg (fun h => hlt h.2)]
          refine .inr ⟨r, by simp [hr], h1, rfl, fun r' hr' hf' => ?_⟩
          rcases List.mem_append.1 hr' with h | h
          · exact h2 r' h hf'
          · obtain rfl := List.mem_singleton.1 h; omega
    · have hfx : ¬ size ≤ (x.2 : Int) - x.1 := by unfold fits at hfit; simpa using hfit
      rw [if_neg (fun h => hfx h.1)]
      rcases ih with ⟨e, h1⟩ | ⟨r, hr, h1, e, h2⟩
      · refine .inl ⟨e, fun r' hr' => ?_⟩
        rcases List.mem_append.1 hr' with h | h
        · exact h1 r' h
        · obtain rfl := List.mem_singleton.1 h; simpa using hfit
      · refine .inr ⟨r, by simp [hr], h1, e, fun r' hr' hf' => ?_⟩
        rcases List.mem_append.1 hr' with h | h
        · exact h2 r' h hf'
        · obtain rfl := List.mem_singleton.1 h; exact absurd hf' hfit
/-- What Best finds: nothing if Fit does, or the beginning of a run that has so many bits. -/
theorem best_find {f : Nat → Bool} {m s : Nat} (hs : 1 ≤ s) : ((∀ i, i < m → freeP f m s i = false) ∧ bestL (s : Int) m (runsL f false m 0) = (0, 4)) ∨
    ∃ c : Nat, c < m ∧ freeP f m s c = true ∧ bestL (s : Int) m (runsL f false m 0) = ((c : Int), 0) := by
  obtain ⟨g1, g2, g3⟩ := runsL_spec f false (Nat.zero_le m)
  rcases bestF_inv (s : Int) m (runsL f false m 0) (fun r hr => by have := (g1 r hr).hi; omega) with ⟨e, h⟩ | ⟨r, hr, h1, e, h2⟩
  · left
    refine ⟨fun i hi => ?_, by unfold bestL; rw [e]; simp; omega⟩
    cases hp : freeP f m s i with
    | false => rfl
    | true =>
      obtain ⟨r, hr, h3, h4⟩ := free_run (Nat.zero_le m) (Nat.zero_le i) hs hp
      have := h r hr
      unfold fits at this; simp at this; omega
  · right
    have hi := g1 r hr
    have hl := hi.lt
    have hm := hi.hi
    refine ⟨r.1, by omega, run_free hi (by unfold fits at h1; simp at h1; omega), ?_⟩
    unfold bestL
    rw [e, if_neg (by simp only; omega)]
end Go.Proofs.YtocgdibadcmnfaaDoor
