/- Spans: how many pages of a run are in a set. -/
import Derived.Test.YtnhbilcpdombfaaSpSome
import Derived.Test.YtnhbilcpdombfaaSpCount
namespace Go.Proofs.Ytnhbilcpdombfaa

def cntP (P : Nat → Bool) (a : Nat) : Nat → Nat
  | 0 => 0
  | k + 1 => cntP P a k + (if P (a + k) = true then 1 else 0)
theorem cnt_le (P : Nat → Bool) (a : Nat) : ∀ k, cntP P a k ≤ k
  | 0 => Nat.le_refl _
  | k + 1 => by have := cnt_le P a k; rw [cntP]; split <;> omega
theorem cnt_all (P : Nat → Bool) (a : Nat) : ∀ k, cntP P a k = k ↔ ∀ i, i < k → P (a + i) = true
  | 0 => ⟨fun _ i h => absurd h (Nat.not_lt_zero _), fun _ => rfl⟩
  | k + 1 => by
    have ih := cnt_all P a k
    have hl := cnt_le P a k
    rw [cntP]
    constructor
    · intro h
      by_cases hp : P (a + k) = true
      · rw [if_pos hp] at h
        have h1 := ih.1 (by omega)
        intro i hi
        by_cases e : i = k
        · rw [e]; exact hp
        · exact h1 i (by omega)
      · rw [if_neg hp] at h; omega
    · intro h
      rw [if_pos (h k (by omega)), ih.2 fun i hi => h i (by omega)]
theorem cnt_pos (P : Nat → Bool) (a : Nat) : ∀ k, 0 < cntP P a k ↔ ∃ i, i < k ∧ P (a + i) = true
  | 0 => ⟨fun h => absurd h (Nat.lt_irrefl _), fun ⟨i, h, _⟩ => absurd h (Nat.not_lt_zero _)⟩
  | k + 1 => by
    have ih := cnt_pos P a k
    rw [cntP]
    by_cases hp : P (a + k) = true
    · rw [if_pos hp]
      exact ⟨fun _ => ⟨k, by omega, hp⟩, fun _ => by omega⟩
    · rw [if_neg hp, Nat.add_zero, ih]
      constructor
      · rintro ⟨i, h1, h2⟩; exact ⟨i, by omega, h2⟩
      · rintro ⟨i, h1, h2⟩
        refine ⟨i, ?_, h2⟩
        have : i ≠ k := fun e => hp (e ▸ h2)
        omega
/-- Two spans of a set are the same, or one is before the other. -/
theorem set_trich {N : Nat} {s : List (Nat × Nat)} (h : IsSet N s) {y z : Nat × Nat} (hy : y ∈ s) (hz : z ∈ s) : y = z ∨ y.1 + y.2 < z.1 ∨ z.1 + z.2 < y.1 := by
  obtain ⟨i, hi, rfl⟩ := List.getElem_of_mem hy
  obtain ⟨j, hj, rfl⟩ := List.getElem_of_mem hz
  have hp := List.pairwise_iff_getElem.1 h.gap
  rcases Nat.lt_trichotomy i j with hlt | rfl | hlt
  · exact .inr (.inl (hp i j hi hj hlt))
  · exact .inl rfl
  · exact .inr (.inr (hp j i hj hi hlt))
theorem has_math {N : Nat} {s : List (Nat × Nat)} (h : IsSet N s) {a b : Nat} (hb : 1 ≤ b) : (decide (cntP (inS s) a b = b)) = s.any (fun y => decide (y.1 ≤ a) && decide (a + b ≤ y.1 + y.2)) := by
  rw [Bool.eq_iff_iff, decide_eq_true_eq, cnt_all, List.any_eq_true]
  constructor
  · intro hall
    obtain ⟨y, hy, h1, h2⟩ := (inS_iff s a).1 (by have := hall 0 hb; simpa using this)
    refine ⟨y, hy, ?_⟩
    by_cases h3 : a + b ≤ y.1 + y.2
    · simp [h1, h3]
    · obtain ⟨z, hz, h4, h5⟩ := (inS_iff s (y.1 + y.2)).1 (by have := hall (y.1 + y.2 - a) (by omega); rwa [show a + (y.1 + y.2 - a) = y.1 + y.2 by omega] at this)
      rcases set_trich h hy hz with rfl | h6 | h6
      · omega
      · omega
      · omega
  · rintro ⟨y, hy, hyy⟩ i hi
    simp only [Bool.and_eq_true, decide_eq_true_eq] at hyy
    exact (inS_iff s (a + i)).2 ⟨y, hy, by omega, by omega⟩
theorem meets_math {N : Nat} {s : List (Nat × Nat)} (h : IsSet N s) {a b : Nat} (hb : 1 ≤ b) : (decide (0 < cntP (inS s) a b)) = s.any (fun y => decide (y.1 < a + b) && decide (a < y.1 + y.2)) := by
  rw [Bool.eq_iff_iff, decide_eq_true_eq, cnt_pos, List.any_eq_true]
  constructor
  · rintro ⟨i, hi, hp⟩
    obtain ⟨y, hy, h1, h2⟩ := (inS_iff s (a + i)).1 hp
    exact ⟨y, hy, by simp; omega⟩
  · rintro ⟨y, hy, hyy⟩
    simp only [Bool.and_eq_true, decide_eq_true_eq] at hyy
    have := (h.run y hy).1
    rcases Nat.lt_or_ge a y.1 with h1 | h1
    · exact ⟨y.1 - a, by omega, (inS_iff s _).2 ⟨y, hy, by omega, by omega⟩⟩
    · exact ⟨0, by omega, (inS_iff s _).2 ⟨y, hy, by omega, by omega⟩⟩
/-- The pages of the first k that these spans cover, each as often as it is covered. -/
def covS (L : List (Nat × Nat)) : Nat → Nat
  | 0 => 0
  | k + 1 => covS L k + cov L k
theorem covS_cons (x : Nat × Nat) (L : List (Nat × Nat)) : ∀ k, covS (x :: L) k = covS L k + (min k (x.1 + x.2) - min k x.1)
  | 0 => by simp [covS]
  | k + 1 => by
    rw [covS, covS, covS_cons x L k, cov]
    split <;> omega
theorem covS_nil : ∀ k, covS [] k = 0
  | 0 => rfl
  | k + 1 => by rw [covS, covS_nil k]; rfl
theorem sum_from (L : List (Nat × Nat)) : ∀ m, L.foldl (fun n x => n + x.2) m = m + L.foldl (fun n x => n + x.2) 0 := by
  induction L with
  | nil => intro m; rfl
  | cons x L ih => intro m; rw [List.foldl_cons, List.foldl_cons, ih, ih (0 + x.2)]; omega
theorem covS_sum : ∀ {L : List (Nat × Nat)}, (∀ x ∈ L, x.1 + x.2 ≤ 1024) → covS L 1024 = sumS L
  | [], _ => by rw [covS_nil]; rfl
  | x :: L, h => by
    have h1 := h x (List.mem_cons_self ..)
    rw [covS_cons, covS_sum fun y hy => h y (List.mem_cons_of_mem _ hy)]
    have e : sumS (x :: L) = x.2 + sumS L := by unfold sumS; rw [List.foldl_cons, sum_from]; omega
    rw [e]; omega
theorem count_math {s : List (Nat × Nat)} (h : IsSet 1024 s) : cntP (inS s) 0 1024 = sumS s := by
  rw [← covS_sum fun x hx => (h.run x hx).2]
  have : ∀ k, cntP (inS s) 0 k = covS s k := by
    intro k
    induction k with
    | zero => rfl
    | succ k ih =>
      rw [cntP, covS, ih, cov_set h, Nat.zero_add]
  exact this 1024
end Go.Proofs.Ytnhbilcpdombfaa
