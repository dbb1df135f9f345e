/- Plain facts on decimal forms: their values, their order; that an item's run is good. -/
import Derived.Test.YtgldpdbdgjehkaaGreatDoorExpand
namespace Go.Proofs.YtgldpdbdgjehkaaGreatDoor
open Go

/-- The number that digits spell behind acc. -/
def dval (acc : Nat) (l : List UInt8) : Nat := l.foldl (fun a c => a * 10 + (c.toNat - 48)) acc
theorem dval_nil (acc : Nat) : dval acc [] = acc := by unfold dval; rw [List.foldl_nil]
theorem dval_cons (acc : Nat) (c : UInt8) (r : List UInt8) : dval acc (c :: r) = dval (acc * 10 + (c.toNat - 48)) r := by unfold dval; rw [List.foldl_cons]
theorem dval_ge (l : List UInt8) : ∀ acc : Nat, acc ≤ dval acc l := by
  induction l with
  | nil => intro acc; rw [dval_nil]; exact Nat.le_refl _
  | cons c r ih => intro acc; have := ih (acc * 10 + (c.toNat - 48)); rw [dval_cons]; omega
theorem dig_bd {c : UInt8} (h : isDigit (c.toNat : Int) = true) : 48 ≤ c.toNat ∧ c.toNat ≤ 57 := by
  simp [isDigit] at h; omega
theorem parseUintM_dval (M : Nat) (hM : M = 18446744073709551615) : ∀ (l : List UInt8) (acc : Nat), allP isDigit l = true → acc ≤ M →
    Lib.parseUintM M acc l = if dval acc l ≤ M then .ok (dval acc l) else .range := by
  intro l
  induction l with
  | nil => intro acc _ ha; rw [dval_nil, if_pos ha]; rfl
  | cons c r ih =>
    intro acc h ha
    simp only [allP, List.all_cons, Bool.and_eq_true] at h
    have hc := dig_bd h.1
    rw [Lib.parseUintM, if_pos hc, dval_cons]
    have hge := dval_ge r (acc * 10 + (c.toNat - 48))
    by_cases h1 : 1844674407370955162 ≤ acc
    · rw [if_pos h1, if_neg (by omega)]
    · rw [if_neg h1]
      by_cases h2 : M < acc * 10 + (c.toNat - 48)
      · rw [if_pos h2, if_neg (by omega)]
      · rw [if_neg h2]
        exact ih _ h.2 (by omega)
theorem natB_cons {c : UInt8} {r : List UInt8} (h : natB (c :: r) = true) : (48 ≤ c.toNat ∧ c.toNat ≤ 57) ∧ (r = [] ∨ 49 ≤ c.toNat) ∧ allP isDigit (c :: r) = true := by
  simp only [natB, Bool.and_eq_true, Bool.or_eq_true, bne_iff_ne, ne_eq, List.isEmpty_iff] at h
  have hd := h.2
  simp only [allP, List.all_cons, Bool.and_eq_true] at hd
  have hc := dig_bd hd.1
  refine ⟨hc, ?_, h.2⟩
  rcases h.1 with e | e
  · exact .inl e
  · right
    have : c.toNat ≠ 48 := fun x => e (UInt8.toNat_inj.1 x)
    omega
theorem natB_trim {l : List UInt8} (h : natB l = true) : Lib.hasPrefix l [45] = false ∧ Lib.trimPrefix l [45] = l := by
  cases l with
  | nil => simp [natB] at h
  | cons c r =>
    have hc := (natB_cons h).1
    have hne : ¬ (45 : UInt8) = c := fun e => by rw [← e] at hc; exact absurd hc.1 (by decide)
    have hp : Lib.hasPrefix (c :: r) [45] = false := by simp [Lib.hasPrefix, List.isPrefixOf, hne]
    exact ⟨hp, by simp [Lib.trimPrefix, hp]⟩
theorem natB_dec {l : List UInt8} (h : natB l = true) : decB l = true := by
  rw [decB, (natB_trim h).1, (natB_trim h).2, h]; rfl
theorem parseIntB_nat {l : List UInt8} (h : natB l = true) : Lib.parseIntB 64 l = if dval 0 l ≤ 9223372036854775807 then .ok (dval 0 l : Int) else .range := by
  cases l with
  | nil => simp [natB] at h
  | cons c r =>
    obtain ⟨hc, _, hall⟩ := natB_cons h
    unfold Lib.parseIntB
    simp only
    rw [if_neg (by omega), Lib.parseUintB, if_neg (by simp)]
    have hneg : ¬ c.toNat = 45 := by omega
    obtain ⟨M, hM⟩ : ∃ M, M = 18446744073709551615 := ⟨_, rfl⟩
    obtain ⟨T, hT⟩ : ∃ T, T = 9223372036854775808 := ⟨_, rfl⟩
    have e1 : 2 ^ 64 - 1 = M := by rw [hM]
    have e2 : 2 ^ (64 - 1) = T := by rw [hT]
    rw [e1, e2, parseUintM_dval M hM _ _ hall (by omega)]
    generalize dval 0 (c :: r) = d
    by_cases h1 : d ≤ M
    · rw [if_pos h1]
      simp only [hneg, not_false_eq_true, true_and, false_and, if_false]
      by_cases h2 : d ≤ 9223372036854775807
      · rw [if_neg (by omega), if_pos h2]
      · rw [if_pos (by omega), if_neg h2]
    · rw [if_neg h1, if_neg (by omega)]
theorem cap1_nat {l : List UInt8} (h : natB l = true) : cap1 l = if dval 0 l ≤ 9999 then (dval 0 l : Int) else 10000 := by
  have e : intR l 0 9999 = if dval 0 l ≤ 9999 then ((dval 0 l : Int), 0) else (0, 7) := by
    rw [intR, if_neg (by decide), if_neg (by rw [natB_dec h]; simp), parseIntB_nat h]
    by_cases h1 : dval 0 l ≤ 9223372036854775807
    · rw [if_pos h1]
      simp only
      by_cases h2 : dval 0 l ≤ 9999
      · rw [if_neg (by omega), if_pos h2]
      · rw [if_pos (by omega), if_neg h2]
    · rw [if_neg h1, if_neg (by omega)]
  rw [cap1, e]
  by_cases h2 : dval 0 l ≤ 9999
  · simp [h2]
  · simp [h2]
theorem dval_upper : ∀ (l : List UInt8) (acc : Nat), allP isDigit l = true → dval acc l < (acc + 1) * 10 ^ l.length
  | [], acc, _ => by rw [dval_nil, List.length_nil, Nat.pow_zero]; omega
  | c :: r, acc, h => by
    simp only [allP, List.all_cons, Bool.and_eq_true] at h
    have hc := dig_bd h.1
    have ih := dval_upper r (acc * 10 + (c.toNat - 48)) h.2
    rw [dval_cons, List.length_cons, Nat.pow_succ]
    refine Nat.lt_of_lt_of_le ih ?_
    rw [Nat.mul_comm (10 ^ r.length) 10, ← Nat.mul_assoc]
    exact Nat.mul_le_mul_right _ (by omega)
theorem dval_lower : ∀ (l : List UInt8) (acc : Nat), acc * 10 ^ l.length ≤ dval acc l
  | [], acc => by rw [dval_nil, List.length_nil, Nat.pow_zero]; omega
  | c :: r, acc => by
    have ih := dval_lower r (acc * 10 + (c.toNat - 48))
    rw [dval_cons, List.length_cons, Nat.pow_succ]
    refine Nat.le_trans ?_ ih
    rw [Nat.mul_comm (10 ^ r.length) 10, ← Nat.mul_assoc]
    exact Nat.mul_le_mul_right _ (by omega)
theorem dval_lex : ∀ (a b : List UInt8) (x y : Nat), a.length = b.length → allP isDigit a = true → allP isDigit b = true → (x < y ∨ x = y ∧ Op.bytesLess a b = true) → dval x a < dval y b
  | [], [], x, y, _, _, _, h => by
    rcases h with h | ⟨_, h⟩
    · exact h
    · simp [Op.bytesLess] at h
  | [], _ :: _, _, _, hl, _, _, _ => by simp at hl
  | _ :: _, [], _, _, hl, _, _, _ => by simp at hl
  | c :: a, d :: b, x, y, hl, ha, hb, h => by
    simp only [allP, List.all_cons, Bool.and_eq_true] at ha hb
    have hc := dig_bd ha.1
    have hd := dig_bd hb.1
    rw [dval_cons, dval_cons]
    refine dval_lex a b _ _ (by simpa using hl) ha.2 hb.2 ?_
    rcases h with h | ⟨rfl, h⟩
    · left; omega
    · simp only [Op.bytesLess, Bool.or_eq_true, decide_eq_true_eq, Bool.and_eq_true, beq_iff_eq] at h
      rcases h with h | ⟨rfl, h⟩
      · left; have : c.toNat < d.toNat := UInt8.lt_iff_toNat_lt.1 h; omega
      · right; exact ⟨rfl, h⟩
theorem before_val {a b : List UInt8} (ha : natB a = true) (hb : natB b = true) (h : beforeB a b = true) : dval 0 a < dval 0 b := by
  simp only [beforeB, Bool.or_eq_true, decide_eq_true_eq, Bool.and_eq_true, beq_iff_eq] at h
  rcases h with h | ⟨hl, h⟩
  · cases b with
    | nil => simp at h
    | cons d r =>
      obtain ⟨hd, hr, _⟩ := natB_cons hb
      have hne : a ≠ [] := (natB_parts ha).1
      have ha0 : 1 ≤ a.length := by cases a with | nil => exact absurd rfl hne | cons _ _ => simp
      have hr' : 49 ≤ d.toNat := by
        rcases hr with rfl | hr
        · simp only [List.length_cons, List.length_nil] at h; omega
        · exact hr
      have h1 := dval_upper a 0 (natB_parts ha).2
      have h2 := dval_lower r (0 * 10 + (d.toNat - 48))
      rw [dval_cons]
      refine Nat.lt_of_lt_of_le h1 (Nat.le_trans ?_ h2)
      simp only [List.length_cons] at h
      rw [Nat.zero_add, Nat.one_mul]
      refine Nat.le_trans (Nat.pow_le_pow_right (by omega) (by omega : a.length ≤ r.length)) ?_
      exact Nat.le_mul_of_pos_left _ (by omega)
  · exact dval_lex a b 0 0 hl (natB_parts ha).2 (natB_parts hb).2 (.inr ⟨rfl, h⟩)
theorem cap1_bd {l : List UInt8} (h : natB l = true) : 0 ≤ cap1 l ∧ cap1 l ≤ 10000 := by
  rw [cap1_nat h]; split <;> omega
theorem cap1_mono {a b : List UInt8} (ha : natB a = true) (hb : natB b = true) (h : dval 0 a ≤ dval 0 b) : cap1 a ≤ cap1 b := by
  rw [cap1_nat ha, cap1_nat hb]; split <;> split <;> omega
theorem item_good (l : List UInt8) (h : (itemR l).2 = true) : (itemR l).1.Good := by
  unfold itemR at h ⊢
  by_cases h1 : (Lib.cut l [45]).2.2 = true
  · rw [if_pos h1] at h ⊢
    simp only [Bool.and_eq_true] at h
    have hb := cap1_bd h.1.1
    have hb2 := cap1_bd h.1.2
    have := cap1_mono h.1.1 h.1.2 (Nat.le_of_lt (before_val h.1.1 h.1.2 h.2))
    exact ⟨hb.1, this, hb2.2, by show (1 : Int) ≤ 1; omega, by show (1 : Int) ≤ 10000; omega⟩
  · rw [if_neg h1] at h ⊢
    by_cases h2 : (Lib.cut l [120]).2.2 = true
    · rw [if_pos h2] at h ⊢
      simp only [Bool.and_eq_true] at h
      have hb := cap1_bd h.1.2
      have hb2 := cap1_bd h.1.1
      have h49 : natB [49] = true := by decide
      have hv := before_val h49 h.1.1 h.2
      have h1v : dval 0 [49] = 1 := by decide
      refine ⟨hb.1, Int.le_refl _, hb.2, ?_, hb2.2⟩
      show 1 ≤ cap1 _
      rw [cap1_nat h.1.1]; split <;> omega
    · rw [if_neg h2] at h ⊢
      have hb := cap1_bd h
      exact ⟨hb.1, Int.le_refl _, hb.2, by show (1 : Int) ≤ 1; omega, by show (1 : Int) ≤ 10000; omega⟩
end Go.Proofs.YtgldpdbdgjehkaaGreatDoor
