/- bits: the runs are determined by what they are; the runs of one bit more. -/
import Derived.Test.YtocgdibadcmnfaaDoorBtTurnMath
namespace Go.Proofs.YtocgdibadcmnfaaDoor
open Go

structure RunSpec (f : Nat → Bool) (on : Bool) (m : Nat) (L : List (Nat × Nat)) : Prop where
  run : ∀ r ∈ L, IsRun f on m 0 r
  all : ∀ i, i < m → f i = on → ∃ r ∈ L, r.1 ≤ i ∧ i < r.2
  sort : L.Pairwise (fun r r' => r.2 < r'.1)
theorem runs_spec0 (f : Nat → Bool) (on : Bool) (m : Nat) : RunSpec f on m (runsL f on m 0) := by
  obtain ⟨h1, h2, h3⟩ := runsL_spec f on (Nat.zero_le m)
  exact ⟨h1, fun i hi hf => h2 i (Nat.zero_le _) hi hf, h3⟩
theorem not_self (on : Bool) : on ≠ !on := by cases on <;> decide
theorem run_eq {f : Nat → Bool} {on : Bool} {m : Nat} {r s : Nat × Nat} (hr : IsRun f on m 0 r) (hs : IsRun f on m 0 s) {x : Nat} (h1 : r.1 ≤ x) (h2 : x < r.2) (h3 : s.1 ≤ x) (h4 : x < s.2) : r = s := by
  have e1 : r.1 = s.1 := by
    rcases Nat.lt_trichotomy r.1 s.1 with h | h | h
    · rcases hs.begin_ with hb | hb
      · omega
      · have := hr.all (s.1 - 1) (by omega) (by omega)
        rw [this] at hb; exact absurd hb (not_self on)
    · exact h
    · rcases hr.begin_ with hb | hb
      · omega
      · have := hs.all (r.1 - 1) (by omega) (by omega)
        rw [this] at hb; exact absurd hb (not_self on)
  have e2 : r.2 = s.2 := by
    have := hr.hi; have := hs.hi
    rcases Nat.lt_trichotomy r.2 s.2 with h | h | h
    · rcases hr.end_ with hb | hb
      · omega
      · have := hs.all r.2 (by omega) h
        rw [this] at hb; exact absurd hb (not_self on)
    · exact h
    · rcases hs.end_ with hb | hb
      · omega
      · have := hr.all s.2 (by omega) h
        rw [this] at hb; exact absurd hb (not_self on)
  exact Prod.ext e1 e2
theorem sorted_eq {R : Nat × Nat → Nat × Nat → Prop} (hR : ∀ a b, R a b → R b a → False) : ∀ {L M : List (Nat × Nat)}, L.Pairwise R → M.Pairwise R → (∀ x, x ∈ L ↔ x ∈ M) → L = M
  | [], [], _, _, _ => rfl
  | [], b :: t, _, _, h => absurd ((h b).2 (List.mem_cons_self ..)) (by simp)
  | a :: t, [], _, _, h => absurd ((h a).1 (List.mem_cons_self ..)) (by simp)
  | a :: t, b :: u, h1, h2, h => by
    obtain ⟨p1, p2⟩ := List.pairwise_cons.1 h1
    obtain ⟨q1, q2⟩ := List.pairwise_cons.1 h2
    have e : a = b := by
      rcases List.mem_cons.1 ((h a).1 (List.mem_cons_self ..)) with ha | ha
      · exact ha
      · rcases List.mem_cons.1 ((h b).2 (List.mem_cons_self ..)) with hb | hb
        · exact hb.symm
        · exact (hR _ _ (p1 b hb) (q1 a ha)).elim
    subst e
    congr 1
    refine sorted_eq hR p2 q2 fun x => ⟨fun hx => ?_, fun hx => ?_⟩
    · rcases List.mem_cons.1 ((h x).1 (List.mem_cons_of_mem _ hx)) with e | e
      · subst e; exact (hR _ _ (p1 x hx) (p1 x hx)).elim
      · exact e
    · rcases List.mem_cons.1 ((h x).2 (List.mem_cons_of_mem _ hx)) with e | e
      · subst e; exact (hR _ _ (q1 x hx) (q1 x hx)).elim
      · exact e
theorem spec_uniq {f : Nat → Bool} {on : Bool} {m : Nat} {L M : List (Nat × Nat)} (hL : RunSpec f on m L) (hM : RunSpec f on m M) : L = M := by
  have sub : ∀ {L M : List (Nat × Nat)}, RunSpec f on m L → RunSpec f on m M → ∀ x, x ∈ L → x ∈ M := by
    intro L M hL hM x hx
    have g := hL.run x hx
    have h1 := g.lt; have h2 := g.hi
    obtain ⟨y, hy, h3, h4⟩ := hM.all x.1 (by omega) (g.all x.1 (Nat.le_refl _) h1)
    rw [run_eq g (hM.run y hy) (Nat.le_refl _) h1 h3 h4]; exact hy
  have wf : L.Pairwise (fun r r' => r.2 < r'.1 ∧ r.1 < r.2 ∧ r'.1 < r'.2) :=
    List.Pairwise.imp_of_mem (fun {a b} ha hb h => ⟨h, (hL.run a ha).lt, (hL.run b hb).lt⟩) hL.sort
  have wm : M.Pairwise (fun r r' => r.2 < r'.1 ∧ r.1 < r.2 ∧ r'.1 < r'.2) :=
    List.Pairwise.imp_of_mem (fun {a b} ha hb h => ⟨h, (hM.run a ha).lt, (hM.run b hb).lt⟩) hM.sort
  exact sorted_eq (fun a b h1 h2 => by omega) wf wm fun x => ⟨sub hL hM x, sub hM hL x⟩
theorem run_more {f : Nat → Bool} {on : Bool} {m : Nat} {r : Nat × Nat} (h : IsRun f on m 0 r) (hx : r.2 = m → f m = !on) : IsRun f on (m + 1) 0 r :=
  ⟨h.lo, h.lt, by have := h.hi; omega, h.all, by
    rcases h.end_ with he | he
    · right; rw [he]; exact hx he
    · exact .inr he, h.begin_⟩
/-- The next bit is none of them. -/
theorem runs_no {f : Nat → Bool} {on : Bool} {m : Nat} (h : f m ≠ on) : runsL f on (m + 1) 0 = runsL f on m 0 := by
  have hn : f m = !on := by cases hf : f m <;> cases on <;> simp_all
  have s := runs_spec0 f on m
  refine spec_uniq (runs_spec0 f on (m + 1)) ⟨fun r hr => run_more (s.run r hr) fun _ => hn, fun i hi hf => ?_, s.sort⟩
  by_cases e : i = m
  · subst e; exact absurd hf h
  · exact s.all i (by omega) hf
/-- The next bit begins a run. -/
theorem runs_new {f : Nat → Bool} {on : Bool} {m : Nat} (h : f m = on) (hl : ∀ r ∈ runsL f on m 0, r.2 ≠ m) : runsL f on (m + 1) 0 = runsL f on m 0 ++ [(m, m + 1)] := by
  have s := runs_spec0 f on m
  refine spec_uniq (runs_spec0 f on (m + 1)) ⟨fun r hr => ?_, fun i hi hf => ?_, ?_⟩
  · rcases List.mem_append.1 hr with hr | hr
    · exact run_more (s.run r hr) fun e => absurd e (hl r hr)
    · obtain rfl := List.mem_singleton.1 hr
      refine ⟨Nat.zero_le _, Nat.lt_succ_self m, Nat.le_refl _, fun i h1 h2 => ?_, .inl rfl, ?_⟩
      · have : i = m := by simp only at h1 h2; omega
        rw [this]; exact h
      · by_cases h0 : m = 0
        · exact .inl h0
        · right
          show f (m - 1) = !on
          cases hf : f (m - 1) == on with
          | false => cases hg : f (m - 1) <;> cases on <;> simp_all
          | true =>
            obtain ⟨r, hr, h1, h2⟩ := s.all (m - 1) (by omega) (beq_iff_eq.1 hf)
            have := (s.run r hr).hi
            exact absurd (by omega) (hl r hr)
  · by_cases e : i = m
    · subst e; exact ⟨_, List.mem_append_right _ (List.mem_singleton.2 rfl), Nat.le_refl _, Nat.lt_succ_self _⟩
    · obtain ⟨r, hr, h1⟩ := s.all i (by omega) hf
      exact ⟨r, List.mem_append_left _ hr, h1⟩
  · refine List.pairwise_append.2 ⟨s.sort, List.pairwise_singleton _ _, fun a ha b hb => ?_⟩
    obtain rfl := List.mem_singleton.1 hb
    have h1 := (s.run a ha).hi
    have h2 := hl a ha
    show a.2 < m
    omega
/-- The next bit goes on with the last run. -/
theorem runs_ext {f : Nat → Bool} {on : Bool} {m x : Nat} {L : List (Nat × Nat)} (h : f m = on) (hL : runsL f on m 0 = L ++ [(x, m)]) : runsL f on (m + 1) 0 = L ++ [(x, m + 1)] := by
  have s := runs_spec0 f on m
  rw [hL] at s
  have g := s.run (x, m) (List.mem_append_right _ (List.mem_singleton.2 rfl))
  obtain ⟨p1, _, p3⟩ := List.pairwise_append.1 s.sort
  refine spec_uniq (runs_spec0 f on (m + 1)) ⟨fun r hr => ?_, fun i hi hf => ?_, ?_⟩
  · rcases List.mem_append.1 hr with hr | hr
    · have h1 := p3 r hr (x, m) (List.mem_singleton.2 rfl)
      have h2 := g.lt
      exact run_more (s.run r (List.mem_append_left _ hr)) fun e => by simp only at h1 h2; omega
    · obtain rfl := List.mem_singleton.1 hr
      refine ⟨Nat.zero_le _, Nat.lt_succ_of_lt g.lt, Nat.le_refl _, fun i h1 h2 => ?_, .inl rfl, g.begin_⟩
      by_cases e : i = m
      · rw [e]; exact h
      · exact g.all i h1 (by simp only at h2 ⊢; omega)
  · by_cases e : i = m
    · subst e; exact ⟨_, List.mem_append_right _ (List.mem_singleton.2 rfl), Nat.le_of_lt g.lt, Nat.lt_succ_self _⟩
    · obtain ⟨r, hr, h1, h2⟩ := s.all i (by omega) hf
      rcases List.mem_append.1 hr with hr | hr
      · exact ⟨r, List.mem_append_left _ hr, h1, h2⟩
      · obtain rfl := List.mem_singleton.1 hr
        exact ⟨_, List.mem_append_right _ (List.mem_singleton.2 rfl), h1, Nat.lt_succ_of_lt h2⟩
  · refine List.pairwise_append.2 ⟨p1, List.pairwise_singleton _ _, fun a ha b hb => ?_⟩
    obtain rfl := List.mem_singleton.1 hb
    exact p3 a ha (x, m) (List.mem_singleton.2 rfl)
/-- Where the last run does not end at m, none does. -/
theorem last_only {f : Nat → Bool} {on : Bool} {m : Nat} {L : List (Nat × Nat)} {r : Nat × Nat} (hL : runsL f on m 0 = L ++ [r]) (hr : r.2 ≠ m) : ∀ s ∈ runsL f on m 0, s.2 ≠ m := by
  have s := runs_spec0 f on m
  rw [hL] at s ⊢
  intro t ht
  rcases List.mem_append.1 ht with h | h
  · have h1 := (List.pairwise_append.1 s.sort).2.2 t h r (List.mem_singleton.2 rfl)
    have g := s.run r (List.mem_append_right _ (List.mem_singleton.2 rfl))
    have := g.lt; have := g.hi
    omega
  · obtain rfl := List.mem_singleton.1 h
    exact hr
end Go.Proofs.YtocgdibadcmnfaaDoor
