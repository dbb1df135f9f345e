/- Spans: plain facts: the set of the pages that have a property; how many spans cover a page. -/
namespace Go.Proofs.Ytnhbilcpdombfaa

/-- One page more: the runs that have ended, and where the open one begins. -/
def stepF (b : Bool) (k : Nat) : List (Nat × Nat) × Option Nat → List (Nat × Nat) × Option Nat
  | (L, none) => if b then (L, some k) else (L, none)
  | (L, some a) => if b then (L, some a) else (L ++ [(a, k - a)], none)
def stF (P : Nat → Bool) : Nat → List (Nat × Nat) × Option Nat
  | 0 => ([], none)
  | k + 1 => stepF (P k) k (stF P k)
def outF (k : Nat) : List (Nat × Nat) × Option Nat → List (Nat × Nat)
  | (L, none) => L
  | (L, some a) => L ++ [(a, k - a)]
/-- The set of the first k pages that have this property. -/
def setF (P : Nat → Bool) (k : Nat) : List (Nat × Nat) := outF k (stF P k)
theorem stF_succ (P : Nat → Bool) (k : Nat) : stF P (k + 1) = stepF (P k) k (stF P k) := rfl
structure StOk (P : Nat → Bool) (k : Nat) (L : List (Nat × Nat)) (o : Option Nat) : Prop where
  run : ∀ x ∈ L, 1 ≤ x.2 ∧ x.1 + x.2 < k
  gap : L.Pairwise (fun x y => x.1 + x.2 < y.1)
  open_ : ∀ a, o = some a → a < k ∧ (∀ p, a ≤ p → p < k → P p = true) ∧ ∀ x ∈ L, x.1 + x.2 < a
  mem : ∀ p, p < k → (P p = true ↔ (∃ x ∈ L, x.1 ≤ p ∧ p < x.1 + x.2) ∨ ∃ a, o = some a ∧ a ≤ p)
  shut : o = none → k = 0 ∨ P (k - 1) = false
  len : 2 * L.length ≤ k ∧ ∀ a, o = some a → 2 * L.length ≤ a
theorem stOk (P : Nat → Bool) : ∀ k, StOk P k (stF P k).1 (stF P k).2
  | 0 => ⟨by simp [stF], by simp [stF], by simp [stF], fun p h => absurd h (Nat.not_lt_zero _), fun _ => .inl rfl, by simp [stF]⟩
  | k + 1 => by
    have ih := stOk P k
    rw [stF_succ]
    generalize stF P k = s at ih
    obtain ⟨L, o⟩ := s
    obtain ⟨h1, h2, h3, h4, h5, h6, h7⟩ := ih
    simp only at h1 h2 h3 h4 h5 h6 h7
    cases o with
    | none =>
      cases hP : P k with
      | false =>
        refine ⟨fun x hx => ⟨(h1 x hx).1, by have := (h1 x hx).2; show _ < k + 1; omega⟩, h2, (fun a e => by simp [stepF] at e), fun p hp => ?_, fun _ => .inr (by simpa using hP), by show 2 * L.length ≤ k + 1; omega, fun a e => by simp [stepF] at e⟩
        show P p = true ↔ (∃ x ∈ L, _) ∨ ∃ a, (none : Option Nat) = some a ∧ a ≤ p
        by_cases e : p = k
        · subst e
          rw [hP]
          constructor
          · intro h; cases h
          · rintro (⟨x, hx, _, hh⟩ | ⟨a, e, _⟩)
            · have := (h1 x hx).2; omega
            · cases e
        · exact h4 p (by omega)
      | true =>
        refine ⟨fun x hx => ⟨(h1 x hx).1, by have := (h1 x hx).2; show _ < k + 1; omega⟩, h2, fun a e => ?_, fun p hp => ?_, (fun e => by simp [stepF] at e), by show 2 * L.length ≤ k + 1; omega, fun a e => ?_⟩
        · have e' : k = a := by simpa [stepF] using e
          subst e'
          exact ⟨Nat.lt_succ_self _, fun p h h' => by rw [show p = k by omega]; exact hP, fun x hx => (h1 x hx).2⟩
        · show P p = true ↔ (∃ x ∈ L, _) ∨ ∃ a, (some k : Option Nat) = some a ∧ a ≤ p
          by_cases e : p = k
          · subst e
            exact ⟨fun _ => .inr ⟨p, rfl, Nat.le_refl _⟩, fun _ => hP⟩
          · rw [h4 p (by omega)]
            constructor
            · rintro (h | ⟨a, e, _⟩)
              · exact .inl h
              · cases e
            · rintro (h | ⟨a, e, h⟩)
              · exact .inl h
              · have : k = a := Option.some.inj e
                omega
        · have e' : k = a := by simpa [stepF] using e
          subst e'; exact h6
    | some a =>
      obtain ⟨ha, hal, hax⟩ := h3 a rfl
      cases hP : P k with
      | true =>
        refine ⟨fun x hx => ⟨(h1 x hx).1, by have := (h1 x hx).2; show _ < k + 1; omega⟩, h2, fun b e => ?_, fun p hp => ?_, (fun e => by simp [stepF] at e), by show 2 * L.length ≤ k + 1; omega, fun b e => ?_⟩
        · have e' : a = b := by simpa [stepF] using e
          subst e'
          exact ⟨by omega, fun p h h' => by
            by_cases e : p = k
            · rw [e]; exact hP
            · exact hal p h (by omega), hax⟩
        · show P p = true ↔ (∃ x ∈ L, _) ∨ ∃ b, (some a : Option Nat) = some b ∧ b ≤ p
          by_cases e : p = k
          · subst e
            exact ⟨fun _ => .inr ⟨a, rfl, by omega⟩, fun _ => hP⟩
          · exact h4 p (by omega)
        · have e' : a = b := by simpa [stepF] using e
          subst e'; exact h7 a rfl
      | false =>
        refine ⟨fun x hx => ?_, ?_, (fun b e => by simp [stepF] at e), fun p hp => ?_, fun _ => .inr (by simpa using hP), ?_, fun b e => by simp [stepF] at e⟩
        · rcases List.mem_append.1 hx with hx | hx
          · exact ⟨(h1 x hx).1, by have := (h1 x hx).2; omega⟩
          · obtain rfl := List.mem_singleton.1 hx
            exact ⟨by show 1 ≤ k - a; omega, by show a + (k - a) < k + 1; omega⟩
        · refine List.pairwise_append.2 ⟨h2, List.pairwise_singleton _ _, fun x hx y hy => ?_⟩
          obtain rfl := List.mem_singleton.1 hy
          exact hax x hx
        · show P p = true ↔ (∃ x ∈ L ++ [(a, k - a)], _) ∨ ∃ b, (none : Option Nat) = some b ∧ b ≤ p
          by_cases e : p = k
          · subst e
            rw [hP]
            constructor
            · intro h; cases h
            · rintro (⟨x, hx, h, hh⟩ | ⟨b, e, _⟩)
              · rcases List.mem_append.1 hx with hx | hx
                · have := (h1 x hx).2; omega
                · obtain rfl := List.mem_singleton.1 hx
                  simp only at hh; omega
              · cases e
          · rw [h4 p (by omega)]
            constructor
            · rintro (⟨x, hx, h⟩ | ⟨b, e, h⟩)
              · exact .inl ⟨x, List.mem_append_left _ hx, h⟩
              · obtain rfl : a = b := Option.some.inj e
                exact .inl ⟨(a, k - a), List.mem_append_right _ (List.mem_singleton.2 rfl), h, by show p < a + (k - a); omega⟩
            · rintro (⟨x, hx, h⟩ | ⟨b, e, h⟩)
              · rcases List.mem_append.1 hx with hx | hx
                · exact .inl ⟨x, hx, h⟩
                · obtain rfl := List.mem_singleton.1 hx
                  exact .inr ⟨a, rfl, h.1⟩
              · cases e
        · show 2 * (L ++ [(a, k - a)]).length ≤ k + 1
          have := h7 a rfl
          simp; omega
/-- What a set is. -/
structure IsSet (N : Nat) (s : List (Nat × Nat)) : Prop where
  run : ∀ x ∈ s, 1 ≤ x.2 ∧ x.1 + x.2 ≤ N
  gap : s.Pairwise (fun x y => x.1 + x.2 < y.1)
def inS (s : List (Nat × Nat)) (p : Nat) : Bool := s.any fun x => decide (x.1 ≤ p) && decide (p < x.1 + x.2)
theorem inS_iff (s : List (Nat × Nat)) (p : Nat) : inS s p = true ↔ ∃ x ∈ s, x.1 ≤ p ∧ p < x.1 + x.2 := by simp [inS, List.any_eq_true]
theorem setF_ok (P : Nat → Bool) (k : Nat) : IsSet k (setF P k) ∧ (∀ p, p < k → inS (setF P k) p = P p) ∧ 2 * (setF P k).length ≤ k + 1 := by
  have h := stOk P k
  unfold setF
  generalize stF P k = s at h
  obtain ⟨L, o⟩ := s
  obtain ⟨h1, h2, h3, h4, h5, h6, h7⟩ := h
  simp only at h1 h2 h3 h4 h5 h6 h7
  cases o with
  | none =>
    refine ⟨⟨fun x hx => ⟨(h1 x hx).1, Nat.le_of_lt (h1 x hx).2⟩, h2⟩, fun p hp => ?_, by show 2 * L.length ≤ k + 1; omega⟩
    rw [Bool.eq_iff_iff, h4 p hp]
    show inS L p = true ↔ _
    rw [inS_iff]
    exact ⟨fun h => .inl h, fun h => h.elim id (fun ⟨a, e, _⟩ => by cases e)⟩
  | some a =>
    obtain ⟨ha, hal, hax⟩ := h3 a rfl
    refine ⟨⟨fun x hx => ?_, ?_⟩, fun p hp => ?_, by have := h7 a rfl; show 2 * (L ++ [(a, k - a)]).length ≤ k + 1; simp; omega⟩
    · rcases List.mem_append.1 hx with hx | hx
      · exact ⟨(h1 x hx).1, Nat.le_of_lt (h1 x hx).2⟩
      · obtain rfl := List.mem_singleton.1 hx
        exact ⟨by show 1 ≤ k - a; omega, by show a + (k - a) ≤ k; omega⟩
    · refine List.pairwise_append.2 ⟨h2, List.pairwise_singleton _ _, fun x hx y hy => ?_⟩
      obtain rfl := List.mem_singleton.1 hy
      exact hax x hx
    · rw [Bool.eq_iff_iff, h4 p hp]
      show inS (L ++ [(a, k - a)]) p = true ↔ _
      rw [inS_iff]
      constructor
      · rintro ⟨x, hx, h⟩
        rcases List.mem_append.1 hx with hx | hx
        · exact .inl ⟨x, hx, h⟩
        · obtain rfl := List.mem_singleton.1 hx
          exact .inr ⟨a, rfl, h.1⟩
      · rintro (⟨x, hx, h⟩ | ⟨b, e, h⟩)
        · exact ⟨x, List.mem_append_left _ hx, h⟩
        · obtain rfl : a = b := Option.some.inj e
          exact ⟨(a, k - a), List.mem_append_right _ (List.mem_singleton.2 rfl), h, by show p < a + (k - a); omega⟩
/-- One page more: the reference's way. -/
theorem setF_no (P : Nat → Bool) (k : Nat) (h : P k = false) : setF P (k + 1) = setF P k := by
  unfold setF
  rw [stF_succ, h]
  obtain ⟨L, o⟩ := stF P k
  cases o <;> rfl
theorem setF_new (P : Nat → Bool) (k : Nat) (h : P k = true) (h0 : k = 0 ∨ P (k - 1) = false) : setF P (k + 1) = setF P k ++ [(k, 1)] := by
  have hs := stOk P k
  unfold setF
  rw [stF_succ, h]
  generalize stF P k = s at hs
  obtain ⟨L, o⟩ := s
  cases o with
  | none =>
    show L ++ [(k, k + 1 - k)] = L ++ [(k, 1)]
    rw [show k + 1 - k = 1 by omega]
  | some a =>
    obtain ⟨h1, h2, _⟩ := hs.open_ a rfl
    have := h2 (k - 1) (by omega) (by omega)
    rcases h0 with h0 | h0
    · omega
    · rw [this] at h0; cases h0
theorem setF_more (P : Nat → Bool) (k : Nat) (h : P k = true) (h0 : 0 < k) (h1 : P (k - 1) = true) : ∃ L a, setF P k = L ++ [(a, k - a)] ∧ a < k ∧ setF P (k + 1) = L ++ [(a, k - a + 1)] := by
  have hs := stOk P k
  unfold setF
  rw [stF_succ, h]
  generalize stF P k = s at hs
  obtain ⟨L, o⟩ := s
  cases o with
  | none =>
    rcases hs.shut rfl with h2 | h2
    · omega
    · rw [h1] at h2; cases h2
  | some a =>
    obtain ⟨h2, _⟩ := hs.open_ a rfl
    exact ⟨L, a, rfl, h2, by show L ++ [(a, k + 1 - a)] = _; rw [show k + 1 - a = k - a + 1 by omega]⟩
/-- Whether the run is open tells of the page before. -/
theorem stF_was (P : Nat → Bool) (k : Nat) : (stF P k).2.isSome = (decide (0 < k) && P (k - 1)) := by
  have hs := stOk P k
  generalize stF P k = s at hs
  obtain ⟨L, o⟩ := s
  cases o with
  | none =>
    rcases hs.shut rfl with h | h
    · subst h; rfl
    · simp [h]
  | some a =>
    obtain ⟨h2, h3, _⟩ := hs.open_ a rfl
    have h0 : 0 < k := by omega
    have := h3 (k - 1) (by omega) (by omega)
    simp [h0, this]
theorem stF_end (P : Nat → Bool) (k : Nat) (h : P k = false) : (stF P (k + 1)).1 = setF P k := by
  unfold setF
  rw [stF_succ, h]
  obtain ⟨L, o⟩ := stF P k
  cases o <;> rfl

/-- How many of these spans cover a page. -/
def cov : List (Nat × Nat) → Nat → Nat
  | [], _ => 0
  | x :: L, p => cov L p + (if x.1 ≤ p ∧ p < x.1 + x.2 then 1 else 0)
theorem cov_append (L M : List (Nat × Nat)) (p : Nat) : cov (L ++ M) p = cov L p + cov M p := by
  induction L with
  | nil => simp [cov]
  | cons x L ih => rw [List.cons_append, cov, cov, ih]; omega
theorem cov_le (L : List (Nat × Nat)) (p : Nat) : cov L p ≤ L.length := by
  induction L with
  | nil => simp [cov]
  | cons x L ih => rw [cov, List.length_cons]; split <;> omega
theorem cov_pos (L : List (Nat × Nat)) (p : Nat) : 1 ≤ cov L p ↔ inS L p = true := by
  rw [inS_iff]
  induction L with
  | nil => simp [cov]
  | cons x L ih =>
    rw [cov]
    by_cases h : x.1 ≤ p ∧ p < x.1 + x.2
    · rw [if_pos h]
      exact ⟨fun _ => ⟨x, List.mem_cons_self .., h⟩, fun _ => by omega⟩
    · rw [if_neg h, Nat.add_zero, ih]
      constructor
      · rintro ⟨y, hy, hh⟩; exact ⟨y, List.mem_cons_of_mem _ hy, hh⟩
      · rintro ⟨y, hy, hh⟩
        rcases List.mem_cons.1 hy with rfl | hy
        · exact absurd hh h
        · exact ⟨y, hy, hh⟩
theorem cov_set {N : Nat} {s : List (Nat × Nat)} (h : IsSet N s) (p : Nat) : cov s p = if inS s p then 1 else 0 := by
  obtain ⟨h1, h2⟩ := h
  induction s with
  | nil => simp [cov, inS]
  | cons x s ih =>
    obtain ⟨h3, h4⟩ := List.pairwise_cons.1 h2
    have ih := ih (fun y hy => h1 y (List.mem_cons_of_mem _ hy)) h4
    have hx := h1 x (List.mem_cons_self ..)
    rw [cov, ih]
    by_cases h : x.1 ≤ p ∧ p < x.1 + x.2
    · have hn : inS s p = false := by
        cases hs : inS s p with
        | false => rfl
        | true =>
          obtain ⟨y, hy, h5, h6⟩ := (inS_iff s p).1 hs
          have := h3 y hy
          omega
      have hy : inS (x :: s) p = true := (inS_iff _ _).2 ⟨x, List.mem_cons_self .., h⟩
      rw [if_pos h, hn, hy]; rfl
    · rw [if_neg h, Nat.add_zero]
      have : inS (x :: s) p = inS s p := by
        rw [Bool.eq_iff_iff, inS_iff, inS_iff]
        constructor
        · rintro ⟨y, hy, hh⟩
          rcases List.mem_cons.1 hy with rfl | hy
          · exact absurd hh h
          · exact ⟨y, hy, hh⟩
        · rintro ⟨y, hy, hh⟩; exact ⟨y, List.mem_cons_of_mem _ hy, hh⟩
      rw [this]
/-- By how many more spans a page is covered than the page before it. -/
def stp : List (Nat × Nat) → Nat → Int
  | [], _ => 0
  | x :: L, p => stp L p + ((if x.1 = p then 1 else 0) - (if x.1 + x.2 = p then 1 else 0))
theorem stp_append (L M : List (Nat × Nat)) (p : Nat) : stp (L ++ M) p = stp L p + stp M p := by
  induction L with
  | nil => simp [stp]
  | cons x L ih => rw [List.cons_append, stp, stp, ih]; omega
theorem stp_bound (L : List (Nat × Nat)) (p : Nat) : -(L.length : Int) ≤ stp L p ∧ stp L p ≤ L.length := by
  induction L with
  | nil => simp [stp]
  | cons x L ih => rw [stp, List.length_cons]; split <;> split <;> omega
/-- The sum of the steps of the first k pages. -/
def dep (L : List (Nat × Nat)) : Nat → Int
  | 0 => 0
  | k + 1 => dep L k + stp L k
theorem dep_cons (x : Nat × Nat) (L : List (Nat × Nat)) (k : Nat) : dep (x :: L) k = dep L k + ((if x.1 < k then 1 else 0) - (if x.1 + x.2 < k then 1 else 0)) := by
  induction k with
  | zero => simp [dep]
  | succ k ih =>
    rw [dep, dep, ih, stp]
    by_cases h1 : x.1 < k <;> by_cases h2 : x.1 + x.2 < k <;> by_cases h3 : x.1 = k <;> by_cases h4 : x.1 + x.2 = k <;> simp [h1, h2, h3, h4] <;> (try omega) <;> (repeat' split) <;> omega
theorem dep_cov (L : List (Nat × Nat)) (p : Nat) : dep L (p + 1) = (cov L p : Int) := by
  induction L with
  | nil =>
    have : ∀ k, dep [] k = 0 := fun k => by induction k with
      | zero => rfl
      | succ k ih => rw [dep, ih]; rfl
    rw [this]; rfl
  | cons x L ih =>
    rw [dep_cons, ih, cov]
    by_cases h : x.1 ≤ p ∧ p < x.1 + x.2
    · rw [if_pos h, if_pos (by omega), if_neg (by omega)]; omega
    · rw [if_neg h]
      by_cases h1 : x.1 < p + 1
      · rw [if_pos h1, if_pos (by omega)]; omega
      · rw [if_neg h1, if_neg (by omega)]; omega
end Go.Proofs.Ytnhbilcpdombfaa
