/- Spans: plain facts for the law SpansLaws: a set is what its pages make. -/
import Derived.Test.YtnhbilcpdombfaaSpCnt
import Derived.Test.YtnhbilcpdombfaaSpComb2
import Derived.Test.YtnhbilcpdombfaaWSpOf
namespace Go.Proofs.Ytnhbilcpdombfaa

theorem set_tail {N : Nat} {x : Nat × Nat} {s : List (Nat × Nat)} (h : IsSet N (x :: s)) : IsSet N s ∧ (∀ z ∈ s, x.1 + x.2 < z.1) ∧ 1 ≤ x.2 ∧ x.1 + x.2 ≤ N :=
  ⟨⟨fun y hy => h.run y (List.mem_cons_of_mem _ hy), (List.pairwise_cons.1 h.gap).2⟩, (List.pairwise_cons.1 h.gap).1, h.run x (List.mem_cons_self ..)⟩
theorem inS_cons_iff (x : Nat × Nat) (s : List (Nat × Nat)) (p : Nat) : inS (x :: s) p = true ↔ (x.1 ≤ p ∧ p < x.1 + x.2) ∨ inS s p = true := by
  simp [inS, List.any_cons]
theorem inS_early {N : Nat} {x : Nat × Nat} {s : List (Nat × Nat)} (h : IsSet N (x :: s)) {p : Nat} (hp : p ≤ x.1 + x.2) : inS s p = false := by
  cases hc : inS s p with
  | false => rfl
  | true =>
    obtain ⟨z, hz, h1, _⟩ := (inS_iff s p).1 hc
    have := (set_tail h).2.1 z hz
    omega
/-- Two sets of the same pages are the same. -/
theorem set_uniq {N : Nat} : ∀ {s t : List (Nat × Nat)}, IsSet N s → IsSet N t → (∀ p, p < N → inS s p = inS t p) → s = t
  | [], [], _, _, _ => rfl
  | [], y :: t, _, ht, h => by
    obtain ⟨_, _, h1, h2⟩ := set_tail ht
    have h3 : inS (y :: t) y.1 = true := (inS_cons_iff y t y.1).2 (.inl ⟨Nat.le_refl _, by omega⟩)
    have := h y.1 (by omega)
    rw [h3] at this; cases this
  | x :: s, [], hs, _, h => by
    obtain ⟨_, _, h1, h2⟩ := set_tail hs
    have h3 : inS (x :: s) x.1 = true := (inS_cons_iff x s x.1).2 (.inl ⟨Nat.le_refl _, by omega⟩)
    have := h x.1 (by omega)
    rw [h3] at this; cases this
  | x :: s, y :: t, hs, ht, h => by
    obtain ⟨hs1, hs2, hs3, hs4⟩ := set_tail hs
    obtain ⟨ht1, ht2, ht3, ht4⟩ := set_tail ht
    have a1 : y.1 ≤ x.1 := by
      have h3 : inS (x :: s) x.1 = true := (inS_cons_iff x s x.1).2 (.inl ⟨Nat.le_refl _, by omega⟩)
      rw [h x.1 (by omega)] at h3
      rcases (inS_cons_iff y t x.1).1 h3 with h4 | h4
      · exact h4.1
      · obtain ⟨z, hz, h5, _⟩ := (inS_iff t x.1).1 h4
        have := ht2 z hz; omega
    have a2 : x.1 ≤ y.1 := by
      have h3 : inS (y :: t) y.1 = true := (inS_cons_iff y t y.1).2 (.inl ⟨Nat.le_refl _, by omega⟩)
      rw [← h y.1 (by omega)] at h3
      rcases (inS_cons_iff x s y.1).1 h3 with h4 | h4
      · exact h4.1
      · obtain ⟨z, hz, h5, _⟩ := (inS_iff s y.1).1 h4
        have := hs2 z hz; omega
    have a3 : ¬ x.1 + x.2 < y.1 + y.2 := fun hlt => by
      have h3 : inS (y :: t) (x.1 + x.2) = true := (inS_cons_iff y t _).2 (.inl ⟨by omega, hlt⟩)
      rw [← h _ (by omega)] at h3
      rcases (inS_cons_iff x s _).1 h3 with h4 | h4
      · omega
      · rw [inS_early hs (Nat.le_refl _)] at h4; cases h4
    have a4 : ¬ y.1 + y.2 < x.1 + x.2 := fun hlt => by
      have h3 : inS (x :: s) (y.1 + y.2) = true := (inS_cons_iff x s _).2 (.inl ⟨by omega, hlt⟩)
      rw [h _ (by omega)] at h3
      rcases (inS_cons_iff y t _).1 h3 with h4 | h4
      · omega
      · rw [inS_early ht (Nat.le_refl _)] at h4; cases h4
    obtain rfl : x = y := Prod.ext (by omega) (by omega)
    have : s = t := set_uniq hs1 ht1 fun p hp => by
      by_cases hpx : p ≤ x.1 + x.2
      · rw [inS_early hs hpx, inS_early ht hpx]
      · rw [Bool.eq_iff_iff]
        have h3 := h p hp
        rw [Bool.eq_iff_iff, inS_cons_iff, inS_cons_iff] at h3
        constructor
        · intro h4
          rcases h3.1 (.inr h4) with h5 | h5
          · omega
          · exact h5
        · intro h4
          rcases h3.2 (.inr h4) with h5 | h5
          · omega
          · exact h5
    rw [this]
theorem setF_self {s : List (Nat × Nat)} (h : IsSet 1024 s) : setF (inS s) 1024 = s :=
  set_uniq (setF_ok _ _).1 h fun p hp => (setF_ok (inS s) 1024).2.1 p hp
theorem down_up (s : List (Nat × Nat)) : down (up s) = s := by
  unfold down up
  rw [List.map_map]
  conv => rhs; rw [← List.map_id s]
  exact List.map_congr_left fun x _ => by simp
theorem pair_congr {P Q : Nat → Bool} (h : ∀ p, p < 1024 → P p = Q p) : ((setF P 1024, 0) : List (Nat × Nat) × Int) = (setF Q 1024, 0) := by rw [setF_congr h]
theorem pair_self {P : Nat → Bool} {s : List (Nat × Nat)} (hs : IsSet 1024 s) (h : ∀ p, p < 1024 → P p = inS s p) : ((setF P 1024, 0) : List (Nat × Nat) × Int) = (s, 0) := by rw [setF_congr h, setF_self hs]
/-- A set that fits into what Check lets by. -/
structure Good (s : List (Nat × Nat)) : Prop where
  set : IsSet 1024 s
  len : s.length ≤ 512
theorem good_setF (P : Nat → Bool) : Good (setF P 1024) := ⟨(setF_ok P 1024).1, by have := (setF_ok P 1024).2.2; omega⟩
theorem Good.check {s : List (Nat × Nat)} (h : Good s) : checkR (up s) = 0 := set_check_ok h.set h.len
theorem good_union {s t : List (Nat × Nat)} (h : Good s) (h' : Good t) : unionR (up s) (up t) = (setF (fun p => inS s p || inS t p) 1024, 0) := by
  unfold unionR joinedR setsE; rw [h.check, h'.check, down_up, down_up]; rfl
theorem good_meet {s t : List (Nat × Nat)} (h : Good s) (h' : Good t) : meetR (up s) (up t) = (setF (fun p => inS s p && inS t p) 1024, 0) := by
  unfold meetR joinedR setsE; rw [h.check, h'.check, down_up, down_up]; rfl
theorem good_minus {s t : List (Nat × Nat)} (h : Good s) (h' : Good t) : minusR (up s) (up t) = (setF (fun p => inS s p && !inS t p) 1024, 0) := by
  unfold minusR joinedR setsE; rw [h.check, h'.check, down_up, down_up]; rfl
theorem good_not {s : List (Nat × Nat)} (h : Good s) : notR (up s) (0, 1024) = (setF (fun p => !inS s p) 1024, 0) := by
  have e : withR (up s) (0, 1024) = 0 := by unfold withR; rw [h.check]; rfl
  unfold notR joinedR
  rw [e, down_up, if_neg (by simp)]
  exact pair_congr fun p hp => by
    have : inS (down [(0, 1024)]) p = true := (inS_iff _ _).2 ⟨(0, 1024), by simp [down], by simp, by simpa using hp⟩
    rw [this, Bool.true_and]
/-- What SpansLaws says of these sets. -/
structure LawS (A B U M D X Y Z : List (Nat × Nat)) : Prop where
  gu : Good U
  gm : Good M
  gd : Good D
  gx : Good X
  gy : Good Y
  gz : Good Z
  u : unionR (up A) (up B) = (U, 0)
  m : meetR (up A) (up B) = (M, 0)
  d : minusR (up A) (up B) = (D, 0)
  x : notR (up A) (0, 1024) = (X, 0)
  y : notR (up B) (0, 1024) = (Y, 0)
  z : notR (up U) (0, 1024) = (Z, 0)
  v : meetR (up A) (up Y) = (D, 0)
  w : meetR (up X) (up Y) = (Z, 0)
  k : unionR (up A) (up M) = (A, 0)
  o : meetR (up A) (up U) = (A, 0)
  hu : ∀ p, p < 1024 → inS U p = (inS A p || inS B p)
  hm : ∀ p, p < 1024 → inS M p = (inS A p && inS B p)
  hd : ∀ p, p < 1024 → inS D p = (inS A p && !inS B p)
  hz : ∀ p, p < 1024 → inS Z p = !inS U p
theorem law_sets {A B : List (Nat × Nat)} (hA : Good A) (hB : Good B) : ∃ U M D X Y Z, LawS A B U M D X Y Z := by
  have pu := fun P => (setF_ok P 1024).2.1
  refine ⟨_, _, _, _, _, _, good_setF _, good_setF _, good_setF _, good_setF _, good_setF _, good_setF _, good_union hA hB, good_meet hA hB, good_minus hA hB, good_not hA, good_not hB, good_not (good_setF _), ?_, ?_, ?_, ?_, fun p hp => pu _ p hp, fun p hp => pu _ p hp, fun p hp => pu _ p hp, fun p hp => pu _ p hp⟩
  · rw [good_meet hA (good_setF _)]
    exact pair_congr fun p hp => by rw [pu _ p hp]
  · rw [good_meet (good_setF _) (good_setF _)]
    exact pair_congr fun p hp => by rw [pu _ p hp, pu _ p hp, pu _ p hp]; cases inS A p <;> cases inS B p <;> rfl
  · rw [good_union hA (good_setF _)]
    exact pair_self hA.set fun p hp => by rw [pu _ p hp]; cases inS A p <;> cases inS B p <;> rfl
  · rw [good_meet hA (good_setF _)]
    exact pair_self hA.set fun p hp => by rw [pu _ p hp]; cases inS A p <;> cases inS B p <;> rfl
end Go.Proofs.Ytnhbilcpdombfaa
