/- Bits: finding them: plain facts. -/
import Derived.Test.YtocgdibadcmnfaaDoorBtMath
import Derived.Lib.TrailingZeros
import Derived.Laws.MathBits
namespace Go.Proofs.YtocgdibadcmnfaaDoor
/-- The first i below n with p. -/
def findR (p : Nat → Bool) (n : Nat) : Int × Int :=
  match (List.range n).find? p with
  | some i => ((i : Int), 0)
  | none => (0, 4)
theorem findR_some {p : Nat → Bool} {n i : Nat} (hi : i < n) (hp : p i = true) (hm : ∀ j, j < i → p j = false) : findR p n = ((i : Int), 0) := by
  have e : (List.range n).find? p = some i := by
    rw [List.find?_eq_some_iff_getElem]
    refine ⟨hp, i, by simpa using hi, by simp, fun j hj => ?_⟩
    have := hm j hj
    simp [this]
  unfold findR
  rw [e]
theorem findR_none {p : Nat → Bool} {n : Nat} (h : ∀ i, i < n → p i = false) : findR p n = (0, 4) := by
  have e : (List.range n).find? p = none := by
    rw [List.find?_eq_none]
    intro i hi
    have := h i (List.mem_range.1 hi)
    simp [this]
  unfold findR
  rw [e]
theorem findR_cases (p : Nat → Bool) (n : Nat) : (∃ i, i < n ∧ p i = true ∧ (∀ j, j < i → p j = false) ∧ findR p n = ((i : Int), 0)) ∨ ((∀ i, i < n → p i = false) ∧ findR p n = (0, 4)) := by
  by_cases h : ∃ i, i < n ∧ p i = true
  · have : ∀ m, (∃ i, i < m ∧ p i = true) → ∃ i, i < m ∧ p i = true ∧ ∀ j, j < i → p j = false := by
      intro m
      induction m with
      | zero => rintro ⟨i, hi, _⟩; omega
      | succ m ih =>
        rintro ⟨i, hi, hp⟩
        by_cases hx : ∃ i, i < m ∧ p i = true
        · obtain ⟨j, hj, hpj, hm⟩ := ih hx
          exact ⟨j, by omega, hpj, hm⟩
        · refine ⟨i, hi, hp, fun j hj => ?_⟩
          cases hq : p j with
          | false => rfl
          | true => exact absurd ⟨j, by omega, hq⟩ hx
    obtain ⟨i, hi, hp, hm⟩ := this n h
    exact .inl ⟨i, hi, hp, hm, findR_some hi hp hm⟩
  · have hn : ∀ i, i < n → p i = false := fun i hi => by
      cases hq : p i with
      | false => rfl
      | true => exact absurd ⟨i, hi, hq⟩ h
    exact .inr ⟨hn, findR_none hn⟩
theorem findR_congr {p q : Nat → Bool} {n : Nat} (h : ∀ i, i < n → p i = q i) : findR p n = findR q n := by
  rcases findR_cases p n with ⟨i, hi, hp, hm, e⟩ | ⟨hn, e⟩
  · rw [e, findR_some hi (by rw [← h i hi]; exact hp) (fun j hj => by rw [← h j (by omega)]; exact hm j hj)]
  · rw [e, findR_none (fun i hi => by rw [← h i hi]; exact hn i hi)]
theorem cnt_find (f : Nat → Bool) : ∀ (m t : Nat), t < cnt f m → ∃ i, i < m ∧ f i = true ∧ cnt f i = t
  | 0, t, h => absurd h (Nat.not_lt_zero _)
  | m + 1, t, h => by
    rw [cnt_succ] at h
    by_cases h2 : t < cnt f m
    · obtain ⟨i, hi, hf, hc⟩ := cnt_find f m t h2
      exact ⟨i, by omega, hf, hc⟩
    · by_cases hf : f m = true
      · rw [if_pos hf] at h
        exact ⟨m, by omega, hf, by omega⟩
      · rw [if_neg hf] at h; omega

/-- The lowest one of a word. -/
theorem ctz_bit {x : Nat} (h0 : x ≠ 0) (hx : x < 2 ^ 64) : Go.Lib.ctz 64 x < 64 ∧ x.testBit (Go.Lib.ctz 64 x) = true ∧ (∀ j, j < Go.Lib.ctz 64 x → x.testBit j = false) ∧
    ∀ j, (x &&& (x - 1)).testBit j = (x.testBit j && !(j == Go.Lib.ctz 64 x)) := by
  obtain ⟨m, hm, hk⟩ := Go.Lib.ctzFrom_spec 64 x (by omega) hx
  have e : Go.Lib.ctz 64 x = Go.Lib.ctzFrom 64 x := by unfold Go.Lib.ctz; rw [if_neg h0]
  rw [e]
  generalize Go.Lib.ctzFrom 64 x = c at hm hk
  have hb : ∀ j, x.testBit j = (decide (c ≤ j) && (2 * m + 1).testBit (j - c)) := fun j => by rw [hm, Nat.testBit_two_pow_mul]
  have hpos : 0 < 2 ^ c := Nat.two_pow_pos c
  have h1 : x - 1 = 2 ^ c * (2 * m) + (2 ^ c - 1) := by rw [hm, Nat.mul_add, Nat.mul_one]; omega
  have hb1 : ∀ j, (x - 1).testBit j = if j < c then true else (2 * m).testBit (j - c) := fun j => by
    rw [h1, Nat.testBit_two_pow_mul_add _ (by omega)]
    by_cases hj : j < c
    · rw [if_pos hj, if_pos hj, Nat.testBit_two_pow_sub_one]; simp [hj]
    · rw [if_neg hj, if_neg hj]
  refine ⟨hk, ?_, ?_, ?_⟩
  · rw [hb]; simp
  · intro j hj; rw [hb]; simp; omega
  · intro j
    rw [Nat.testBit_and, hb, hb1]
    by_cases hj : j < c
    · have : decide (c ≤ j) = false := by simp; omega
      rw [this]; simp
    · rw [if_neg hj]
      have : decide (c ≤ j) = true := by simp; omega
      rw [this]
      by_cases he : j = c
      · subst he; simp
      · obtain ⟨d, hd⟩ : ∃ d, j - c = d + 1 := ⟨j - c - 1, by omega⟩
        rw [hd, Nat.testBit_succ, Nat.testBit_succ, show (2 * m + 1) / 2 = m by omega, show 2 * m / 2 = m by omega]
        simp [he]
/-- The word without its t lowest ones. -/
def Dropped (x t y : Nat) : Prop := y < 2 ^ 64 ∧ ∀ j, y.testBit j = (x.testBit j && decide (t ≤ cnt x.testBit j))
theorem dropped_zero {x : Nat} (hx : x < 2 ^ 64) : Dropped x 0 x := ⟨hx, fun j => by simp⟩
theorem dropped_low {x t y : Nat} (h : Dropped x t y) (ht : t < cnt x.testBit 64) : y ≠ 0 ∧ Go.Lib.ctz 64 y < 64 ∧ x.testBit (Go.Lib.ctz 64 y) = true ∧ cnt x.testBit (Go.Lib.ctz 64 y) = t := by
  obtain ⟨i, hi, hf, hc⟩ := cnt_find _ _ _ ht
  have hyi : y.testBit i = true := by rw [h.2, hf, hc]; simp
  have h0 : y ≠ 0 := by rintro rfl; simp at hyi
  obtain ⟨h1, h2, h3, _⟩ := ctz_bit h0 h.1
  have hle : ¬ i < Go.Lib.ctz 64 y := fun hlt => by rw [h3 i hlt] at hyi; cases hyi
  rw [h.2] at h2
  simp only [Bool.and_eq_true, decide_eq_true_eq] at h2
  refine ⟨h0, h1, h2.1, ?_⟩
  have := cnt_mono x.testBit (show Go.Lib.ctz 64 y ≤ i by omega)
  omega
theorem dropped_succ {x t y : Nat} (h : Dropped x t y) (ht : t < cnt x.testBit 64) : Dropped x (t + 1) (y &&& (y - 1)) := by
  obtain ⟨h0, h1, h2, h3⟩ := dropped_low h ht
  obtain ⟨_, _, _, h4⟩ := ctz_bit h0 h.1
  refine ⟨Nat.and_lt_two_pow _ (by have := h.1; omega), fun j => ?_⟩
  rw [h4, h.2]
  cases hx : x.testBit j with
  | false => rfl
  | true =>
    simp only [Bool.true_and]
    by_cases he : j = Go.Lib.ctz 64 y
    · rw [he, h3]; simp
    · have hne : cnt x.testBit j ≠ t := fun e => he (cnt_inj _ hx h2 (e.trans h3.symm))
      rw [Bool.eq_iff_iff]; simp [he]; omega
theorem bitLen_bit {x : Nat} (h0 : x ≠ 0) (hx : x < 2 ^ 64) : 1 ≤ Go.bitLen x ∧ Go.bitLen x ≤ 64 ∧ x.testBit (Go.bitLen x - 1) = true ∧ ∀ j, Go.bitLen x ≤ j → x.testBit j = false := by
  have h := Go.bitLen_spec x
  have h1 : 1 ≤ Go.bitLen x := by unfold Go.bitLen; rw [if_neg h0]; omega
  refine ⟨h1, ?_, ?_, ?_⟩
  · apply Classical.byContradiction
    intro hn
    have h2 := h.2 h0
    have : 2 ^ 64 ≤ 2 ^ (Go.bitLen x - 1) := Nat.pow_le_pow_right (by decide) (by omega)
    omega
  · exact Nat.testBit_of_two_pow_le_and_two_pow_add_one_gt (h.2 h0) (by rw [show Go.bitLen x - 1 + 1 = Go.bitLen x by omega]; exact h.1)
  · intro j hj
    exact Nat.testBit_lt_two_pow (Nat.lt_of_lt_of_le h.1 (Nat.pow_le_pow_right (by decide) hj))
theorem ne_zero_bit {x : Nat} (h0 : x ≠ 0) (hx : x < 2 ^ 64) : ∃ j, j < 64 ∧ x.testBit j = true := ⟨_, (ctz_bit h0 hx).1, (ctz_bit h0 hx).2.1⟩
end Go.Proofs.YtocgdibadcmnfaaDoor
