/- The canonical expression is read as its list, and no expression of the list comes before it. -/
import Derived.Test.YtgldpdbdgjehkaaGreatDoorExprs
import Derived.Test.YtgldpdbdgjehkaaGreatDoorLMath
namespace Go.Proofs.YtgldpdbdgjehkaaGreatDoor
open Go

theorem pieces_cases (c : UInt8) : ∀ (s p : List UInt8) (ps : List (List UInt8)), pieces c s = p :: ps → (ps = [] ∧ s = p) ∨ ∃ s', s = p ++ c :: s' ∧ pieces c s' = ps
  | [], p, ps, h => by simp only [pieces, List.cons.injEq] at h; exact .inl ⟨h.2.symm, h.1⟩
  | b :: r, p, ps, h => by
    rw [pieces] at h
    by_cases hb : b = c
    · rw [if_pos hb] at h
      simp only [List.cons.injEq] at h
      obtain ⟨rfl, rfl⟩ := h
      exact .inr ⟨r, by rw [hb]; rfl, rfl⟩
    · rw [if_neg hb] at h
      cases hp : pieces c r with
      | nil => exact absurd hp (pieces_ne c r)
      | cons q qs =>
        rw [hp] at h
        simp only [List.cons.injEq] at h
        obtain ⟨rfl, rfl⟩ := h
        rcases pieces_cases c r q qs hp with ⟨h1, h2⟩ | ⟨s', h1, h2⟩
        · exact .inl ⟨h1, by rw [h2]⟩
        · exact .inr ⟨s', by rw [h1]; rfl, h2⟩
theorem pieces_join (c : UInt8) : ∀ s t : List UInt8, pieces c (s ++ c :: t) = pieces c s ++ pieces c t
  | [], t => by simp [pieces]
  | b :: s, t => by
    have ih := pieces_join c s t
    rw [List.cons_append, pieces, pieces, ih]
    by_cases hb : b = c
    · rw [if_pos hb, if_pos hb]; rfl
    · rw [if_neg hb, if_neg hb]
      cases hp : pieces c s with
      | nil => exact absurd hp (pieces_ne c s)
      | cons p ps => rfl
theorem pieces_one (c : UInt8) : ∀ p : List UInt8, c ∉ p → pieces c p = [p]
  | [], _ => rfl
  | b :: p, h => by
    have hb : b ≠ c := fun e => h (by rw [e]; simp)
    rw [pieces, if_neg hb, pieces_one c p (fun e => h (by simp [e]))]
/-- The string is an expression of the list. -/
def Expr (s : List UInt8) (l : List Int) : Prop := (∀ p ∈ pieces 44 s, Shape p (itemR p).1) ∧ (pieces 44 s).flatMap (fun p => (itemR p).1.nums) = l
theorem shape_run {t : List UInt8} {r : Run} (h : Shape t r) : (itemR t).1 = r := by rw [(shape_item h).1]
theorem expr_one {p : List UInt8} {r : Run} (h : Shape p r) : Expr p r.nums := by
  have e := pieces_one 44 p (shape_item h).2.1
  unfold Expr
  rw [e]
  refine ⟨?_, ?_⟩
  · intro q hq
    obtain rfl := List.mem_singleton.1 hq
    rw [shape_run h]; exact h
  · simp [shape_run h]
theorem expr_app {s t : List UInt8} {l m : List Int} (h : Expr s l) (k : Expr t m) : Expr (s ++ 44 :: t) (l ++ m) := by
  unfold Expr
  rw [pieces_join]
  refine ⟨?_, by rw [List.flatMap_append, h.2, k.2]⟩
  intro p hp
  rcases List.mem_append.1 hp with hp | hp
  · exact h.1 p hp
  · exact k.1 p hp
theorem expr_cases {s : List UInt8} {l : List Int} (h : Expr s l) : (∃ r, Shape s r ∧ l = r.nums) ∨ ∃ p r s' l', Shape p r ∧ s = p ++ 44 :: s' ∧ Expr s' l' ∧ l = r.nums ++ l' := by
  obtain ⟨h1, h2⟩ := h
  cases hp : pieces 44 s with
  | nil => exact absurd hp (pieces_ne 44 s)
  | cons p ps =>
    rw [hp] at h1 h2
    have hs := h1 p (by simp)
    rcases pieces_cases 44 s p ps hp with ⟨rfl, rfl⟩ | ⟨s', e, rfl⟩
    · exact .inl ⟨_, hs, by rw [← h2]; simp⟩
    · exact .inr ⟨p, _, s', _, hs, e, ⟨fun q hq => h1 q (by simp [hq]), rfl⟩, by rw [← h2]; simp⟩
theorem shape_nums {t : List UInt8} {r : Run} (h : Shape t r) : r.nums ≠ [] ∧ (∀ n ∈ r.nums, 0 ≤ n ∧ n ≤ 9999) := by
  rcases h with ⟨n, h0, h1, rfl, rfl⟩ | ⟨n, m, h0, h1, h2, rfl, rfl⟩ | ⟨k, n, h0, h1, h2, h3, rfl, rfl⟩
  · rw [nums_same]
    refine ⟨by simp, fun x hx => ?_⟩
    have := List.eq_of_mem_replicate hx; omega
  · rw [nums_up]
    refine ⟨?_, fun x hx => ?_⟩
    · intro e; have := congrArg List.length e; simp at this; omega
    · obtain ⟨i, hi, rfl⟩ := List.mem_map.1 hx
      have := List.mem_range.1 hi; omega
  · rw [nums_same]
    refine ⟨?_, fun x hx => ?_⟩
    · intro e; have := congrArg List.length e; simp at this; omega
    · have := List.eq_of_mem_replicate hx; omega
theorem expr_nums : ∀ (n : Nat) (s : List UInt8) (l : List Int), s.length ≤ n → Expr s l → l ≠ [] ∧ ∀ x ∈ l, 0 ≤ x ∧ x ≤ 9999
  | 0, s, l, hn, h => by
    rcases expr_cases h with ⟨r, h1, rfl⟩ | ⟨p, r, s', l', h1, rfl, h2, rfl⟩
    · exact shape_nums h1
    · simp at hn
  | n + 1, s, l, hn, h => by
    rcases expr_cases h with ⟨r, h1, rfl⟩ | ⟨p, r, s', l', h1, rfl, h2, rfl⟩
    · exact shape_nums h1
    · simp only [List.length_append, List.length_cons] at hn
      obtain ⟨a1, a2⟩ := shape_nums h1
      obtain ⟨b1, b2⟩ := expr_nums n s' l' (by omega) h2
      refine ⟨by simp [a1], fun x hx => ?_⟩
      rcases List.mem_append.1 hx with hx | hx
      · exact a2 x hx
      · exact b2 x hx
theorem items_ok {l : List Int} (h0 : l ≠ []) (hl : l.length ≤ 500) (hr : ∀ n ∈ l, 0 ≤ n ∧ n ≤ 9999) : ∀ it ∈ itemsL l, 1 ≤ it.count ∧ it.count ≤ l.length ∧ it.text ≠ [] := by
  intro it hit
  obtain ⟨h1, h2, r, h3, _⟩ := items_shape l h0 (by omega) hr it hit
  exact ⟨h1, h2, (shape_item h3).2.2.1⟩
theorem canon_least : ∀ (n : Nat) (s : List UInt8) (l : List Int), s.length ≤ n → Expr s l → l.length ≤ 500 → le (canonL l) s := by
  intro n
  induction n with
  | zero =>
    intro s l hn h hl
    rcases expr_cases h with ⟨r, h1, rfl⟩ | ⟨p, r, s', l', h1, rfl, h2, rfl⟩
    · obtain rfl := List.length_eq_zero_iff.1 (Nat.le_zero.1 hn)
      exact absurd rfl (shape_item h1).2.2.1
    · simp at hn
  | succ n ih =>
    intro s l hn h hl
    obtain ⟨h0, hr⟩ := expr_nums _ s l (Nat.le_refl _) h
    have hb := (canon_best l h0 (items_ok h0 hl hr)).2
    rcases expr_cases h with ⟨r, h1, e⟩ | ⟨p, r, s', l', h1, rfl, h2, e⟩
    · obtain ⟨it, hit, ht, hc⟩ := shape_items (l := l) (l' := []) h1 (by rw [List.append_nil]; exact e)
      have := hb it hit
      rw [ht, hc, e, List.drop_length] at this
      rw [e]
      unfold glue at this
      rw [if_pos rfl, List.append_nil] at this
      exact this
    · obtain ⟨it, hit, ht, hc⟩ := shape_items h1 e
      have := hb it hit
      rw [ht, hc] at this
      have hd : l.drop r.nums.length = l' := by rw [e]; simp
      rw [hd] at this
      have hl' : l'.length ≤ 500 := by rw [e, List.length_append] at hl; omega
      simp only [List.length_append, List.length_cons] at hn
      have hn' := (expr_nums _ s' l' (Nat.le_refl _) h2).1
      unfold glue at this
      rw [if_neg hn'] at this
      exact le_trans this (le_prefix p (le_prefix [44] (ih s' l' (by omega) h2 hl')))
theorem itoa_four {n : Int} (h0 : 0 ≤ n) (h1 : n ≤ 9999) : (Lib.itoa n).length ≤ 4 := by
  obtain ⟨e1, e2⟩ := natB_itoa h0
  cases hx : Lib.itoa n with
  | nil => simp
  | cons c r =>
    rw [hx] at e1 e2
    obtain ⟨hc, hr, _⟩ := natB_cons e1
    rcases hr with rfl | hr
    · simp
    · rw [dval_cons] at e2
      have hd := dval_lower r (0 * 10 + (c.toNat - 48))
      have h2 : 1 * 10 ^ r.length ≤ (0 * 10 + (c.toNat - 48)) * 10 ^ r.length := Nat.mul_le_mul_right _ (by omega)
      by_cases h4 : r.length ≤ 3
      · simp; omega
      · have h5 : 10 ^ 4 ≤ 10 ^ r.length := Nat.pow_le_pow_right (by decide) (by omega)
        have h6 : 10 ^ 4 = 10000 := by decide
        omega
theorem canon_expr : ∀ (n : Nat) (l : List Int), l.length ≤ n → l ≠ [] → l.length ≤ 500 → (∀ x ∈ l, 0 ≤ x ∧ x ≤ 9999) → Expr (canonL l) l ∧ (canonL l).length + 1 ≤ 5 * l.length := by
  intro n
  induction n with
  | zero => intro l hn h0; exact absurd (List.length_eq_zero_iff.1 (Nat.le_zero.1 hn)) h0
  | succ n ih =>
    intro l hn h0 hl hr
    obtain ⟨⟨it, hit, he⟩, hb⟩ := canon_best l h0 (items_ok h0 hl hr)
    refine ⟨?_, ?_⟩
    · obtain ⟨h1, h2, r, h3, h4⟩ := items_shape l h0 (by omega) hr it hit
      rw [he]
      unfold glue
      by_cases hd : l.drop it.count = []
      · rw [if_pos hd, List.append_nil]
        have ht : l.take it.count = l := by
          have := List.take_append_drop it.count l
          rw [hd, List.append_nil] at this; exact this
        rw [ht] at h4
        rw [← h4]; exact expr_one h3
      · rw [if_neg hd]
        have hx := (ih (l.drop it.count) (by rw [List.length_drop]; omega) hd (by rw [List.length_drop]; omega) (fun x hx => hr x (List.mem_of_mem_drop hx))).1
        have := expr_app (expr_one h3) hx
        rw [h4, List.take_append_drop] at this
        exact this
    · cases l with
      | nil => exact absurd rfl h0
      | cons x r =>
        have hf := hb ⟨Lib.itoa (at0 (x :: r) 0), 1⟩ (by simp [itemsL])
        have hx := hr x (by simp)
        have h4 := itoa_four hx.1 hx.2
        have e0 : at0 (x :: r) 0 = x := rfl
        rw [le_iff] at hf
        simp only [e0, List.drop_succ_cons, List.drop_zero] at hf
        have hg : (glue (Lib.itoa x) r).length + 1 ≤ 5 * (r.length + 1) := by
          unfold glue
          by_cases h : r = []
          · rw [if_pos h]; simp; omega
          · rw [if_neg h]
            have := (ih r (by simpa using hn) h (by simp at hl; omega) (fun y hy => hr y (by simp [hy]))).2
            simp only [List.length_append, List.length_cons]; omega
        simp only [List.length_cons]
        rcases hf with h | ⟨h, _⟩ <;> omega
theorem sizes_mem : ∀ {rs : List Run}, (∀ r ∈ rs, r.Good) → ∀ r ∈ rs, r.times ≤ sizes rs
  | [], _, r, h => by cases h
  | a :: rs, hg, r, h => by
    have h1 := Run.size_bd (hg a (by simp))
    have h2 := sizes_bd (fun x hx => hg x (List.mem_cons_of_mem _ hx))
    have hn : (0 : Int) ≤ rs.length := by omega
    rcases List.mem_cons.1 h with rfl | h
    · have g := hg r (by simp)
      have : r.times ≤ r.size := by
        unfold Run.size
        have := Int.mul_le_mul_of_nonneg_right (show 1 ≤ r.last - r.first + 1 by have := g.fl; omega) (show 0 ≤ r.times by have := g.t1; omega)
        rw [Int.one_mul] at this; exact this
      simp only [sizes]; omega
    · have := sizes_mem (fun x hx => hg x (List.mem_cons_of_mem _ hx)) r h
      simp only [sizes]; omega
theorem expr_good {s : List UInt8} (h : ∀ p ∈ pieces 44 s, (itemR p).2 = true) : ∀ r ∈ (pieces 44 s).map (fun p => (itemR p).1), r.Good := by
  intro r hr
  obtain ⟨p, hp, rfl⟩ := List.mem_map.1 hr
  exact item_good p (h p hp)
theorem flat_map (ps : List (List UInt8)) : (ps.map fun p => (itemR p).1).flatMap Run.nums = ps.flatMap fun p => (itemR p).1.nums := by
  rw [List.flatMap_map]
theorem parse_expr {s : List UInt8} {l : List Int} (h : Expr s l) (hs : s.length ≤ 2500) (hl : l.length ≤ 500) : parseR s = (l, 0) := by
  have hok : ∀ p ∈ pieces 44 s, (itemR p).2 = true := fun p hp => by rw [(shape_item (h.1 p hp)).1]
  have hne : s ≠ [] := by
    rintro rfl
    have := h.1 [] (by simp [pieces])
    exact absurd rfl (shape_item this).2.2.1
  unfold parseR
  rw [if_neg (by omega), if_neg hne, if_pos (by rw [List.all_eq_true]; exact hok)]
  unfold expandR
  rw [if_neg, if_neg, flat_map, h.2]
  · have := flat_length (expr_good hok)
    rw [flat_map, h.2] at this; omega
  · rw [List.any_eq_true]
    rintro ⟨r, hr, hb⟩
    obtain ⟨p, hp, rfl⟩ := List.mem_map.1 hr
    have := (shape_item (h.1 p hp)).2.2.2
    simp at hb; omega
theorem expr_parse {s : List UInt8} {l : List Int} (hs : s ≠ []) (h : parseR s = (l, 0)) : Expr s l ∧ l.length ≤ 500 ∧ s.length ≤ 2500 := by
  unfold parseR at h
  by_cases h1 : 2500 < s.length
  · rw [if_pos h1] at h; cases h
  · rw [if_neg h1, if_neg hs] at h
    by_cases h2 : (pieces 44 s).all (fun p => (itemR p).2) = true
    · rw [if_pos h2] at h
      rw [List.all_eq_true] at h2
      unfold expandR at h
      split at h
      · cases h
      · rename_i h3
        split at h
        · cases h
        · rename_i h4
          have hg := expr_good h2
          have hfl := flat_length hg
          rw [flat_map] at h hfl
          have e := (Prod.mk.inj h).1
          rw [e] at hfl
          refine ⟨⟨fun p hp => ?_, e⟩, by omega, by omega⟩
          have hm : (itemR p).1 ∈ (pieces 44 s).map fun p => (itemR p).1 := List.mem_map_of_mem hp
          have ht := sizes_mem hg _ hm
          refine item_shape (h2 p hp) ?_ (by omega)
          simp only [Bool.not_eq_true, List.any_eq_false] at h3
          have := h3 _ hm
          simp at this; omega
    · rw [if_neg h2] at h; cases h
end Go.Proofs.YtgldpdbdgjehkaaGreatDoor
