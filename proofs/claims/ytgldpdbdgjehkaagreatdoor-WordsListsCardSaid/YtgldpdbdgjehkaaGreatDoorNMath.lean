/- Plain facts on decimal forms and the numbers that they are. -/
import Derived.Test.YtgldpdbdgjehkaaGreatDoorRWhole
import Derived.Test.YtgldpdbdgjehkaaGreatDoorDMath
namespace Go.Proofs.YtgldpdbdgjehkaaGreatDoor
open Go

theorem dval_app (a b : List UInt8) (acc : Nat) : dval acc (a ++ b) = dval (dval acc a) b := by unfold dval; rw [List.foldl_append]
theorem dval_one (acc : Nat) (c : UInt8) : dval acc [c] = acc * 10 + (c.toNat - 48) := by rw [dval_cons, dval_nil]
theorem dig_ofNat (d : Nat) (h : d < 10) : (UInt8.ofNat (48 + d)).toNat = 48 + d := by rw [UInt8.toNat_ofNat']; omega
theorem ofNat_dig (c : UInt8) (h : 48 ≤ c.toNat) : UInt8.ofNat (48 + (c.toNat - 48)) = c := by
  rw [show 48 + (c.toNat - 48) = c.toNat by omega]; exact UInt8.ofNat_toNat
theorem dec_small {u : Nat} (h : u < 10) : Lib.decDigits u = [UInt8.ofNat (48 + u)] := Lib.decDigits_one h
theorem dec_big {u : Nat} (h : ¬ u < 10) : Lib.decDigits u = Lib.decDigits (u / 10) ++ [UInt8.ofNat (48 + u % 10)] := by rw [Lib.decDigits, dif_neg h]
theorem dval_dec (u : Nat) : dval 0 (Lib.decDigits u) = u := by
  induction u using Nat.strongRecOn with
  | _ u ih =>
    by_cases h : u < 10
    · rw [dec_small h, dval_one, dig_ofNat u h]; omega
    · rw [dec_big h, dval_app, ih (u / 10) (by omega), dval_one, dig_ofNat _ (by omega)]; omega
theorem isDigit_ofNat (d : Nat) (h : d < 10) : isDigit ((UInt8.ofNat (48 + d)).toNat : Int) = true := by
  rw [dig_ofNat d h]; simp [isDigit]; omega
theorem allP_app (p : Int → Bool) (a b : List UInt8) : allP p (a ++ b) = (allP p a && allP p b) := by simp [allP]
theorem allP_one (p : Int → Bool) (c : UInt8) : allP p [c] = p (c.toNat : Int) := by simp [allP]
theorem dec_head (u : Nat) : ∃ c r, Lib.decDigits u = c :: r ∧ (1 ≤ u → 49 ≤ c.toNat) ∧ (u < 10 → r = []) := by
  induction u using Nat.strongRecOn with
  | _ u ih =>
    by_cases h : u < 10
    · exact ⟨_, _, dec_small h, fun h1 => by rw [dig_ofNat u h]; omega, fun _ => rfl⟩
    · obtain ⟨c, r, e, h1, _⟩ := ih (u / 10) (by omega)
      exact ⟨c, r ++ [UInt8.ofNat (48 + u % 10)], by rw [dec_big h, e]; rfl, fun _ => h1 (by omega), fun h' => absurd h' h⟩
theorem dec_digits (u : Nat) : allP isDigit (Lib.decDigits u) = true := by
  induction u using Nat.strongRecOn with
  | _ u ih =>
    by_cases h : u < 10
    · rw [dec_small h, allP_one]; exact isDigit_ofNat u h
    · rw [dec_big h, allP_app, ih (u / 10) (by omega), allP_one, isDigit_ofNat _ (by omega)]; rfl
theorem natB_decDigits (u : Nat) : natB (Lib.decDigits u) = true := by
  obtain ⟨c, r, e, h1, h2⟩ := dec_head u
  have hd := dec_digits u
  rw [e] at hd ⊢
  rw [natB, hd, Bool.and_true]
  by_cases h : u < 10
  · rw [h2 h]; rfl
  · have : c ≠ 48 := fun e => by have := h1 (by omega); rw [e] at this; exact absurd this (by decide)
    simp [this]
theorem dec_dval (n : Nat) : ∀ l : List UInt8, l.length = n → natB l = true → Lib.decDigits (dval 0 l) = l := by
  induction n with
  | zero => intro l hl h; rw [List.length_eq_zero_iff.1 hl] at h; cases h
  | succ n ih =>
    intro l hl h
    obtain ⟨p, c, rfl⟩ : ∃ p c, l = p ++ [c] := ⟨l.dropLast, l.getLast (by intro e; rw [e] at hl; simp at hl), (List.dropLast_concat_getLast _).symm⟩
    have hall := (natB_parts h).2
    rw [allP_app, allP_one, Bool.and_eq_true] at hall
    have hc := dig_bd hall.2
    rw [dval_app, dval_one]
    cases p with
    | nil => rw [dval_nil, dec_small (by omega), Nat.zero_mul, Nat.zero_add, ofNat_dig c hc.1]; rfl
    | cons x r =>
      obtain ⟨hx, h0, _⟩ := natB_cons h
      have hx9 : 49 ≤ x.toNat := by
        rcases h0 with h0 | h0
        · simp at h0
        · exact h0
      have hne : x ≠ 48 := fun e => by rw [e] at hx9; exact absurd hx9 (by decide)
      have hp : natB (x :: r) = true := by rw [natB, hall.1, Bool.and_true]; simp [hne]
      have hv : 1 ≤ dval 0 (x :: r) := by
        have := dval_ge r (0 * 10 + (x.toNat - 48)); rw [dval_cons]; omega
      rw [dec_big (by omega), show (dval 0 (x :: r) * 10 + (c.toNat - 48)) / 10 = dval 0 (x :: r) by omega, show (dval 0 (x :: r) * 10 + (c.toNat - 48)) % 10 = c.toNat - 48 by omega,
        ih (x :: r) (by simp at hl ⊢; omega) hp, ofNat_dig c hc.1]

/-- The number that a decimal form is. -/
def valI : List UInt8 → Int
  | [] => 0
  | c :: r => if c = 45 then -(dval 0 r : Int) else (dval 0 (c :: r) : Int)
theorem decB_neg (r : List UInt8) : decB (45 :: r) = (natB r && !(r == [48])) := by
  have h1 : Lib.hasPrefix (45 :: r) [45] = true := by simp [Lib.hasPrefix]
  have h2 : Lib.trimPrefix (45 :: r) [45] = r := by simp [Lib.trimPrefix, Lib.hasPrefix]
  rw [decB, h1, h2, Bool.true_and]
theorem decB_pos (c : UInt8) (r : List UInt8) (h : c ≠ 45) : decB (c :: r) = natB (c :: r) := by
  have h1 : Lib.hasPrefix (c :: r) [45] = false := by simp [Lib.hasPrefix, List.isPrefixOf, Ne.symm h]
  have h2 : Lib.trimPrefix (c :: r) [45] = c :: r := by simp [Lib.trimPrefix, h1]
  rw [decB, h1, h2, Bool.false_and, Bool.not_false, Bool.and_true]
theorem dec_zero {l : List UInt8} (h : natB l = true) (h0 : dval 0 l = 0) : l = [48] := by
  have := dec_dval _ l rfl h
  rw [h0] at this; rw [← this]; exact dec_small (by decide)
theorem itoa_val (l : List UInt8) (h : decB l = true) : Lib.itoa (valI l) = l := by
  cases l with
  | nil => cases h
  | cons c r =>
    by_cases hc : c = 45
    · subst hc
      rw [decB_neg, Bool.and_eq_true, Bool.not_eq_true', beq_eq_false_iff_ne] at h
      have hv : 1 ≤ dval 0 r := by
        rcases Nat.eq_zero_or_pos (dval 0 r) with e | e
        · exact absurd (dec_zero h.1 e) h.2
        · exact e
      rw [valI, if_pos rfl, Lib.itoa_neg _ hv, dec_dval _ r rfl h.1]
    · rw [decB_pos c r hc] at h
      rw [valI, if_neg hc, Lib.itoa_nonneg, dec_dval _ _ rfl h]
theorem val_itoa (n : Int) : valI (Lib.itoa n) = n := by
  by_cases h : 0 ≤ n
  · obtain ⟨u, rfl⟩ := Int.eq_ofNat_of_zero_le h
    show valI (Lib.itoa (u : Int)) = _
    rw [Lib.itoa_nonneg]
    obtain ⟨c, r, e, _, _⟩ := dec_head u
    have hc := (natB_cons (e ▸ natB_decDigits u)).1
    have hne : c ≠ 45 := fun e => by rw [e] at hc; exact absurd hc.1 (by decide)
    have hv := dval_dec u
    rw [e] at hv ⊢
    rw [valI, if_neg hne, hv]
  · obtain ⟨u, hu⟩ := Int.eq_ofNat_of_zero_le (show 0 ≤ -n by omega)
    have e : n = -(u : Int) := by omega
    rw [e, Lib.itoa_neg u (by omega), valI, if_pos rfl, dval_dec]
theorem decB_itoa (n : Int) : decB (Lib.itoa n) = true := by
  by_cases h : 0 ≤ n
  · obtain ⟨u, rfl⟩ := Int.eq_ofNat_of_zero_le h
    show decB (Lib.itoa (u : Int)) = _
    rw [Lib.itoa_nonneg]; exact natB_dec (natB_decDigits u)
  · obtain ⟨u, hu⟩ := Int.eq_ofNat_of_zero_le (show 0 ≤ -n by omega)
    have e : n = -(u : Int) := by omega
    rw [e, Lib.itoa_neg u (by omega), decB_neg, natB_decDigits u, Bool.true_and, Bool.not_eq_true', beq_eq_false_iff_ne]
    intro e; have := dval_dec u; rw [e] at this; have h48 : dval 0 [48] = 0 := by decide
    omega
theorem parseIntB_val (l : List UInt8) (h : decB l = true) : Lib.parseIntB 64 l = if -9223372036854775808 ≤ valI l ∧ valI l ≤ 9223372036854775807 then .ok (valI l) else .range := by
  cases l with
  | nil => cases h
  | cons c r =>
    by_cases hc : c = 45
    · subst hc
      rw [decB_neg, Bool.and_eq_true] at h
      have hall := (natB_parts h.1).2
      unfold Lib.parseIntB
      simp only
      rw [if_pos (by decide), Lib.parseUintB, if_neg (natB_parts h.1).1, valI, if_pos rfl]
      obtain ⟨M, hM⟩ : ∃ M, M = 18446744073709551615 := ⟨_, rfl⟩
      obtain ⟨T, hT⟩ : ∃ T, T = 9223372036854775808 := ⟨_, rfl⟩
      have e1 : 2 ^ 64 - 1 = M := by rw [hM]
      have e2 : 2 ^ (64 - 1) = T := by rw [hT]
      rw [e1, e2, parseUintM_dval M hM _ _ hall (by omega)]
      generalize dval 0 r = d
      have h45 : (45 : UInt8).toNat = 45 := rfl
      by_cases h1 : d ≤ M
      · rw [if_pos h1]
        simp only [h45, not_true_eq_false, false_and, true_and, if_false, if_true]
        by_cases h2 : d ≤ 9223372036854775808
        · rw [if_neg (by omega), if_pos (by omega)]
        · rw [if_pos (by omega), if_neg (by omega)]
      · rw [if_neg h1, if_neg (by omega)]
    · rw [decB_pos c r hc] at h
      rw [parseIntB_nat h, valI, if_neg hc]
      by_cases h2 : dval 0 (c :: r) ≤ 9223372036854775807
      · rw [if_pos h2, if_pos (by omega)]
      · rw [if_neg h2, if_neg (by omega)]
theorem intR_val (l : List UInt8) (mn mx : Int) : intR l mn mx = if mx < mn then (0, 2) else if decB l = false then (0, 6) else
    if -9223372036854775808 ≤ valI l ∧ valI l ≤ 9223372036854775807 ∧ mn ≤ valI l ∧ valI l ≤ mx then (valI l, 0) else (0, 7) := by
  unfold intR
  by_cases h1 : mx < mn
  · rw [if_pos h1, if_pos h1]
  · rw [if_neg h1, if_neg h1]
    cases hd : decB l
    · rfl
    · rw [if_neg (by decide), if_neg (by decide), parseIntB_val l hd]
      by_cases h2 : -9223372036854775808 ≤ valI l ∧ valI l ≤ 9223372036854775807
      · rw [if_pos h2]
        simp only
        by_cases h3 : valI l < mn ∨ mx < valI l
        · rw [if_pos h3, if_neg (by omega)]
        · rw [if_neg h3, if_pos (by omega)]
      · rw [if_neg h2, if_neg (by omega)]
theorem long_val (l : List UInt8) (h : decB l = true) (hl : 20 < l.length) : ¬ (-9223372036854775808 ≤ valI l ∧ valI l ≤ 9223372036854775807) := by
  have key : ∀ (c : UInt8) (r : List UInt8), natB (c :: r) = true → 19 ≤ r.length → 10000000000000000000 ≤ dval 0 (c :: r) := by
    intro c r h hr
    obtain ⟨hc, h0, _⟩ := natB_cons h
    have h49 : 49 ≤ c.toNat := by
      rcases h0 with rfl | h0
      · simp at hr
      · exact h0
    have h2 := dval_lower r (0 * 10 + (c.toNat - 48))
    rw [dval_cons]
    refine Nat.le_trans ?_ h2
    have hp : 10 ^ 19 ≤ 10 ^ r.length := Nat.pow_le_pow_right (by omega) hr
    have : 10 ^ 19 = 10000000000000000000 := by decide
    rw [← this]
    exact Nat.le_trans hp (Nat.le_mul_of_pos_left _ (by omega))
  cases l with
  | nil => cases h
  | cons c r =>
    by_cases hc : c = 45
    · subst hc
      rw [decB_neg, Bool.and_eq_true] at h
      cases r with
      | nil => simp at hl
      | cons d q =>
        have := key d q h.1 (by simp at hl; omega)
        rw [valI, if_pos rfl]; omega
    · rw [decB_pos c r hc] at h
      have := key c r h (by simp at hl; omega)
      rw [valI, if_neg hc]; omega
end Go.Proofs.YtgldpdbdgjehkaaGreatDoor
