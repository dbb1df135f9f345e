/- Spans: plain facts: the gaps of a set; what the joins of sets have. -/
import Derived.Test.YtnhbilcpdombfaaSpOf
namespace Go.Proofs.Ytnhbilcpdombfaa

theorem stF_congr {P Q : Nat → Bool} : ∀ {k : Nat}, (∀ p, p < k → P p = Q p) → stF P k = stF Q k
  | 0, _ => rfl
  | k + 1, h => by rw [stF_succ, stF_succ, stF_congr (fun p hp => h p (by omega)), h k (by omega)]
theorem setF_congr {P Q : Nat → Bool} {k : Nat} (h : ∀ p, p < k → P p = Q p) : setF P k = setF Q k := by unfold setF; rw [stF_congr h]
def restStep (st : List (Nat × Nat) × Nat) (x : Nat × Nat) : List (Nat × Nat) × Nat := (if st.2 < x.1 then st.1 ++ [(st.2, x.1 - st.2)] else st.1, x.1 + x.2)
/-- The gaps before the end of the last span, and this end. -/
def restSt (s : List (Nat × Nat)) : List (Nat × Nat) × Nat := s.foldl restStep ([], 0)
theorem restSt_snoc (s : List (Nat × Nat)) (x : Nat × Nat) : restSt (s ++ [x]) = restStep (restSt s) x := by simp [restSt]
/-- All gaps of a set. -/
def restR (s : List (Nat × Nat)) : List (Nat × Nat) := (restSt s).1 ++ (if (restSt s).2 < 1024 then [((restSt s).2, 1024 - (restSt s).2)] else [])
structure RestOk (s G : List (Nat × Nat)) (f : Nat) : Prop where
  run : ∀ g ∈ G, 1 ≤ g.2 ∧ g.1 + g.2 < f
  gap : G.Pairwise (fun x y => x.1 + x.2 < y.1)
  mem : ∀ p, p < f → inS G p = !inS s p
  le : f ≤ 1024
  ends : ∀ x ∈ s, x.1 + x.2 ≤ f
  from_ : f = 0 ∧ s = [] ∨ ∃ x ∈ s, x.1 + x.2 = f
  len : G.length ≤ s.length
theorem inS_append (s t : List (Nat × Nat)) (p : Nat) : inS (s ++ t) p = (inS s p || inS t p) := by simp [inS]
theorem inS_one (x : Nat × Nat) (p : Nat) : inS [x] p = (decide (x.1 ≤ p) && decide (p < x.1 + x.2)) := by simp [inS]
theorem inS_out {s : List (Nat × Nat)} {p : Nat} (h : ∀ x ∈ s, x.1 + x.2 ≤ p) : inS s p = false := by
  cases hs : inS s p with
  | false => rfl
  | true =>
    obtain ⟨x, hx, _, h2⟩ := (inS_iff s p).1 hs
    have := h x hx; omega
theorem snoc_ind {α : Type} {P : List α → Prop} (h0 : P []) (h1 : ∀ L x, P L → P (L ++ [x])) (L : List α) : P L := by
  have : ∀ R : List α, P R.reverse := by
    intro R
    induction R with
    | nil => exact h0
    | cons x R ih => rw [List.reverse_cons]; exact h1 _ _ ih
  have h := this L.reverse
  rwa [List.reverse_reverse] at h
theorem IsSet.init {N : Nat} {s : List (Nat × Nat)} {x : Nat × Nat} (h : IsSet N (s ++ [x])) : IsSet N s ∧ (∀ y ∈ s, y.1 + y.2 < x.1) ∧ 1 ≤ x.2 ∧ x.1 + x.2 ≤ N := by
  obtain ⟨h1, h2⟩ := h
  obtain ⟨p1, _, p3⟩ := List.pairwise_append.1 h2
  exact ⟨⟨fun y hy => h1 y (List.mem_append_left _ hy), p1⟩, fun y hy => p3 y hy x (List.mem_singleton.2 rfl), h1 x (List.mem_append_right _ (List.mem_singleton.2 rfl))⟩
theorem rest_ok (s : List (Nat × Nat)) : IsSet 1024 s → RestOk s (restSt s).1 (restSt s).2 := by
  refine snoc_ind (P := fun s => IsSet 1024 s → RestOk s (restSt s).1 (restSt s).2) ?_ ?_ s
  · exact fun _ => ⟨by simp [restSt], by simp [restSt], fun p h => absurd h (Nat.not_lt_zero _), by simp [restSt], by simp, .inl ⟨rfl, rfl⟩, by simp [restSt]⟩
  · intro s x ih hs
    obtain ⟨h1, h2, h3, h4⟩ := hs.init
    have ih := ih h1
    rw [restSt_snoc]
    generalize restSt s = st at ih
    obtain ⟨G, f⟩ := st
    simp only at ih
    have hfx : f ≤ x.1 := by
      rcases ih.from_ with ⟨h, _⟩ | ⟨y, hy, h⟩
      · omega
      · have := h2 y hy; omega
    have hout : ∀ p, f ≤ p → inS s p = false := fun p hp => inS_out fun y hy => by have := ih.ends y hy; omega
    have hGout : ∀ p, f ≤ p → inS G p = false := fun p hp => inS_out fun y hy => by have := (ih.run y hy).2; omega
    unfold restStep
    simp only
    by_cases hlt : f < x.1
    · rw [if_pos hlt]
      refine ⟨fun g hg => ?_, ?_, fun p hp => ?_, h4, fun y hy => ?_, .inr ⟨x, by simp, rfl⟩, by have := ih.len; simp; omega⟩
      · rcases List.mem_append.1 hg with hg | hg
        · have := ih.run g hg; omega
        · obtain rfl := List.mem_singleton.1 hg
          simp only; omega
      · refine List.pairwise_append.2 ⟨ih.gap, List.pairwise_singleton _ _, fun y hy z hz => ?_⟩
        obtain rfl := List.mem_singleton.1 hz
        exact (ih.run y hy).2
      · rw [inS_append, inS_append, inS_one, inS_one]
        by_cases hpf : p < f
        · rw [ih.mem p hpf]
          have e1 : decide (f ≤ p) = false := by simp; omega
          have e2 : decide (x.1 ≤ p) = false := by simp; omega
          simp [e1, e2]
        · rw [hout p (by omega), hGout p (by omega)]
          have e1 : decide (f ≤ p) = true := by simp; omega
          have e3 : decide (p < x.1 + x.2) = true := by simpa using hp
          simp only [e1, e3, Bool.false_or, Bool.true_and, Bool.and_true]
          rw [← decide_not]; apply decide_eq_decide.2; omega
      · rcases List.mem_append.1 hy with hy | hy
        · have := ih.ends y hy; omega
        · obtain rfl := List.mem_singleton.1 hy; omega
    · rw [if_neg hlt]
      refine ⟨fun g hg => ?_, ih.gap, fun p hp => ?_, h4, fun y hy => ?_, .inr ⟨x, by simp, rfl⟩, by have := ih.len; simp; omega⟩
      · have := ih.run g hg; omega
      · rw [inS_append, inS_one]
        by_cases hpf : p < f
        · rw [ih.mem p hpf]
          have e2 : decide (x.1 ≤ p) = false := by simp; omega
          simp [e2]
        · rw [hout p (by omega), hGout p (by omega)]
          have e2 : decide (x.1 ≤ p) = true := by simp; omega
          have e3 : decide (p < x.1 + x.2) = true := by simpa using hp
          simp [e2, e3]
      · rcases List.mem_append.1 hy with hy | hy
        · have := ih.ends y hy; omega
        · obtain rfl := List.mem_singleton.1 hy; omega
theorem restR_ok {s : List (Nat × Nat)} (h : IsSet 1024 s) : IsSet 1024 (restR s) ∧ (∀ p, p < 1024 → inS (restR s) p = !inS s p) ∧ (restR s).length ≤ s.length + 1 := by
  have hr := rest_ok s h
  unfold restR
  generalize restSt s = st at hr
  obtain ⟨G, f⟩ := st
  simp only at hr ⊢
  have hl := hr.le
  have hlen := hr.len
  have hout : ∀ p, f ≤ p → inS s p = false := fun p hp => inS_out fun y hy => by have := hr.ends y hy; omega
  have hGout : ∀ p, f ≤ p → inS G p = false := fun p hp => inS_out fun y hy => by have := (hr.run y hy).2; omega
  by_cases hlt : f < 1024
  · rw [if_pos hlt]
    refine ⟨⟨fun g hg => ?_, ?_⟩, fun p hp => ?_, by simp; omega⟩
    · rcases List.mem_append.1 hg with hg | hg
      · have := hr.run g hg; omega
      · obtain rfl := List.mem_singleton.1 hg
        simp only; omega
    · refine List.pairwise_append.2 ⟨hr.gap, List.pairwise_singleton _ _, fun y hy z hz => ?_⟩
      obtain rfl := List.mem_singleton.1 hz
      exact (hr.run y hy).2
    · rw [inS_append, inS_one]
      by_cases hpf : p < f
      · rw [hr.mem p hpf]
        have e1 : decide (f ≤ p) = false := by simp; omega
        simp [e1]
      · rw [hout p (by omega), hGout p (by omega)]
        have e1 : decide (f ≤ p) = true := by simp; omega
        have e3 : decide (p < f + (1024 - f)) = true := by simp; omega
        simp [e1, e3]
  · rw [if_neg hlt, List.append_nil]
    refine ⟨⟨fun g hg => by have := hr.run g hg; omega, hr.gap⟩, fun p hp => hr.mem p (by omega), by omega⟩
/-- What the joins have. -/
theorem cov_two (a b : List (Nat × Nat)) (q q' : Option Addr) (c c' : Nat) (p : Nat) : cov (flatL [(q, c, a), (q', c', b)] 2) p = cov a p + cov b p := by
  have e : flatL [(q, c, a), (q', c', b)] 2 = a ++ b := by simp [flatL]
  rw [e, cov_append]
theorem or_pred (a b : List (Nat × Nat)) (q q' : Option Addr) (c c' : Nat) : (fun p => decide (1 ≤ cov (flatL [(q, c, a), (q', c', b)] 2) p)) = fun p => inS a p || inS b p := by
  funext p
  rw [cov_two, Bool.eq_iff_iff, decide_eq_true_eq, Bool.or_eq_true, ← cov_pos, ← cov_pos]
  omega
theorem and_pred {a b : List (Nat × Nat)} (ha : IsSet 1024 a) (hb : IsSet 1024 b) (q q' : Option Addr) (c c' : Nat) : (fun p => decide (2 ≤ cov (flatL [(q, c, a), (q', c', b)] 2) p)) = fun p => inS a p && inS b p := by
  funext p
  rw [cov_two, cov_set ha, cov_set hb]
  cases inS a p <;> cases inS b p <;> rfl
/-- What Check makes of a list. -/
theorem check_set {l : List (Int × Int)} (h : checkR l = 0) : l.all validR = true ∧ IsSet 1024 (down l) ∧ l.length ≤ 512 := by
  unfold checkR at h
  by_cases h1 : listR l 512 ≠ 0
  · rw [if_pos h1] at h; exact absurd h h1
  · rw [if_neg h1] at h
    obtain ⟨h2, h3⟩ := listR_ok (Classical.not_not.1 h1)
    have h4 : gapsR l l.length = true := by
      cases hg : gapsR l l.length with
      | true => rfl
      | false => rw [hg] at h; cases h
    refine ⟨h3, ⟨fun x hx => down_okay h3 x hx, ?_⟩, h2⟩
    -- each span lies behind the one before it, so behind all before it
    have hadj : ∀ i (hi : i + 1 < l.length), l[i].1 + l[i].2 < l[i + 1].1 := by
      intro i hi
      unfold gapsR at h4
      have := List.all_eq_true.1 h4 (i + 1) (List.mem_range.2 hi)
      rw [Nat.add_sub_cancel, List.getElem?_eq_getElem hi, List.getElem?_eq_getElem (show i < l.length by omega)] at this
      simpa using this
    have hval : ∀ i (hi : i < l.length), 0 ≤ l[i].1 ∧ 1 ≤ l[i].2 ∧ l[i].1 + l[i].2 ≤ 1024 := fun i hi => (validR_iff _).1 (List.all_eq_true.1 h3 _ (List.getElem_mem hi))
    have hall : ∀ d i (hi : i + d + 1 < l.length), l[i].1 + l[i].2 < l[i + d + 1].1 := by
      intro d
      induction d with
      | zero => intro i hi; exact hadj i hi
      | succ d ih =>
        intro i hi
        have e1 := ih i (by omega)
        have e2 := hadj (i + d + 1) (by omega)
        have e3 := hval (i + d + 1) (by omega)
        have e4 : l[i + (d + 1) + 1] = l[i + d + 1 + 1] := by congr 1
        rw [e4]; omega
    rw [List.pairwise_iff_getElem]
    intro i j hi hj hij
    have hi' : i < l.length := by rw [down_len] at hi; exact hi
    have hj' : j < l.length := by rw [down_len] at hj; exact hj
    have e := hall (j - i - 1) i (by omega)
    have e4 : l[i + (j - i - 1) + 1]'(by omega) = l[j] := by congr 1; omega
    rw [e4] at e
    have v1 := hval i hi'
    have v2 := hval j hj'
    simp only [down, List.getElem_map]
    omega
end Go.Proofs.Ytnhbilcpdombfaa
