/- The reference's way to the pieces: plain mathematics. -/
import Derived.Test.YtnhbilcpdombfaaSpRPages
namespace Go.Proofs.Ytnhbilcpdombfaa
open Go.RowKit

/-- The last piece gets one page more. -/
def bump : List (Nat × Nat) → List (Nat × Nat)
  | [] => []
  | [x] => [(x.1, x.2 + 1)]
  | x :: y :: l => x :: bump (y :: l)
theorem bump_snoc : ∀ (L : List (Nat × Nat)) (x y : Nat), bump (L ++ [(x, y)]) = L ++ [(x, y + 1)]
  | [], _, _ => rfl
  | [z], _, _ => rfl
  | z :: w :: l, x, y => by
    show z :: bump ((w :: l) ++ [(x, y)]) = _
    rw [bump_snoc (w :: l)]; rfl
theorem bump_cons (z : Nat × Nat) {l : List (Nat × Nat)} (h : l ≠ []) : bump (z :: l) = z :: bump l := by
  cases l with
  | nil => exact absurd rfl h
  | cons w l => rfl
theorem bump_append {m : List (Nat × Nat)} (h : m ≠ []) : ∀ l : List (Nat × Nat), bump (l ++ m) = l ++ bump m
  | [] => rfl
  | z :: l => by
    rw [List.cons_append, bump_cons z (by simp [h]), bump_append h l]; rfl
theorem next_mod {size a e : Nat} (hs : 1 ≤ size) (h1 : a < e) (h2 : e < a - a % size + size) : e % size ≠ 0 := by
  have h3 := Nat.div_add_mod a size
  have h4 := Nat.mod_lt a hs
  intro h0
  have h5 := Nat.div_add_mod e size
  rw [h0] at h5
  have h6 : size * (a / size) < size * (e / size) := by omega
  have h7 : size * (e / size) < size * (a / size + 1) := by rw [Nat.mul_add]; omega
  have h8 := Nat.lt_of_mul_lt_mul_left h6
  have h9 := Nat.lt_of_mul_lt_mul_left h7
  omega
/-- One page more, behind the pieces from a to e. -/
theorem cut_snoc {size : Nat} (hs : 1 ≤ size) : ∀ d a e, e - a = d → a ≤ e → cutP size (e + 1 - a) a (e + 1) = if a < e ∧ e % size ≠ 0 then bump (cutP size (e - a) a e) else cutP size (e - a) a e ++ [(e, 1)] := by
  intro d
  induction d using Nat.strongRecOn with
  | _ d ih =>
    intro a e hd hae
    rw [cutP_step hs (by omega)]
    by_cases hlt : a < e
    · rw [cutP_step hs hlt]
      have hm1 : a < a - a % size + size := by have := Nat.mod_lt a hs; have := Nat.mod_le a size; omega
      by_cases hm : a - a % size + size ≤ e
      · have t1 : toP size a (e + 1) = a - a % size + size := by unfold toP; omega
        have t2 : toP size a e = a - a % size + size := by unfold toP; omega
        rw [t1, t2]
        have hm0 : (a - a % size + size) % size = 0 := by
          have h3 : a - a % size + size = size * (a / size + 1) := by have := Nat.div_add_mod a size; rw [Nat.mul_add]; omega
          rw [h3]; exact Nat.mul_mod_right _ _
        generalize a - a % size + size = m at hm hm1 hm0
        rw [ih (e - m) (by omega) m e rfl hm]
        by_cases hme : m < e
        · have hne : cutP size (e - m) m e ≠ [] := by rw [cutP_step hs hme]; simp
          by_cases h0 : e % size ≠ 0
          · rw [if_pos ⟨hme, h0⟩, if_pos ⟨hlt, h0⟩, bump_cons _ hne]
          · rw [if_neg (fun h => h0 h.2), if_neg (fun h => h0 h.2)]; rfl
        · obtain rfl : m = e := by omega
          rw [if_neg (fun h => h.2 hm0), if_neg (fun h => h.2 hm0)]; rfl
      · have t1 : toP size a (e + 1) = e + 1 := by unfold toP; omega
        have t2 : toP size a e = e := by unfold toP; omega
        rw [t1, t2, cutP_end (by omega), cutP_end (by omega), if_pos ⟨hlt, next_mod hs hlt (by omega)⟩]
        show _ = [(a, e - a + 1)]
        rw [show e + 1 - a = e - a + 1 by omega]
    · obtain rfl : a = e := by omega
      have t1 : toP size a (a + 1) = a + 1 := by unfold toP; have := Nat.mod_lt a hs; have := Nat.mod_le a size; omega
      rw [t1, cutP_end (by omega), cutP_end (by omega), if_neg (fun h => hlt h.1), show a + 1 - a = 1 by omega]; rfl
/-- Does a page follow the one before? -/
def joinB : Option Nat → Nat → Bool
  | some q, p => decide (p = q + 1)
  | none, _ => false
/-- One page in the reference's loop: the pieces so far, and the page before. -/
def stepG (size : Nat) (st : List (Nat × Nat) × Option Nat) (p : Nat) : List (Nat × Nat) × Option Nat :=
  (if joinB st.2 p = true ∧ p % size ≠ 0 then bump st.1 else st.1 ++ [(p, 1)], some p)
theorem span_fold {size : Nat} (hs : 1 ≤ size) (P : List (Nat × Nat)) (last : Option Nat) (a : Nat) (h : ∀ q, last = some q → a ≠ q + 1) : ∀ b, 1 ≤ b →
    ((List.range b).map (a + ·)).foldl (stepG size) (P, last) = (P ++ cutP size b a (a + b), some (a + b - 1))
  | 0, hb => by omega
  | 1, _ => by
    have e : ((List.range 1).map (a + ·)) = [a] := rfl
    have := cut_snoc hs 0 a a (by omega) (Nat.le_refl _)
    rw [if_neg (fun h => Nat.lt_irrefl _ h.1), cutP_end (Nat.lt_irrefl _), show a + 1 - a = 1 by omega] at this
    rw [e, List.foldl_cons, List.foldl_nil, this]
    unfold stepG
    rw [if_neg]
    · simp
    · rintro ⟨h1, _⟩
      cases last with
      | none => cases h1
      | some q => exact h q rfl (of_decide_eq_true h1)
  | b + 2, _ => by
    have ih := span_fold hs P last a h (b + 1) (by omega)
    have c := cut_snoc hs (b + 1) a (a + (b + 1)) (by omega) (by omega)
    rw [show a + (b + 1) + 1 - a = b + 2 by omega, show a + (b + 1) - a = b + 1 by omega] at c
    have hne : cutP size (b + 1) a (a + (b + 1)) ≠ [] := by
      have := cutP_step (e := a + (b + 1)) hs (show a < a + (b + 1) by omega)
      rw [show a + (b + 1) - a = b + 1 by omega] at this
      rw [this]; simp
    rw [List.range_succ, List.map_append, List.foldl_append, ih, List.map_cons, List.map_nil, List.foldl_cons, List.foldl_nil]
    show stepG size _ _ = (P ++ cutP size (b + 2) a (a + (b + 1) + 1), some (a + (b + 2) - 1))
    rw [c]
    unfold stepG
    have e1 : joinB (some (a + (b + 1) - 1)) (a + (b + 1)) = true := decide_eq_true (by omega)
    simp only [e1]
    by_cases h0 : (a + (b + 1)) % size ≠ 0
    · rw [if_pos ⟨trivial, h0⟩, if_pos ⟨by omega, h0⟩, bump_append hne]; rfl
    · rw [if_neg (fun h => h0 h.2), if_neg (fun h => h0 h.2), List.append_assoc]; rfl
theorem pages_fold {size N : Nat} (hs : 1 ≤ size) : ∀ (s : List (Nat × Nat)) (P : List (Nat × Nat)) (last : Option Nat), IsSet N s → (∀ q, last = some q → ∀ x ∈ s, q + 1 < x.1) →
    ((pagesL s).foldl (stepG size) (P, last)).1 = P ++ piecesL size s
  | [], P, last, _, _ => by simp [pagesL, piecesL]
  | x :: s, P, last, h, hl => by
    obtain ⟨⟨h1, h2⟩, h3, h4⟩ := set_cons h
    have e : pagesL (x :: s) = (List.range x.2).map (x.1 + ·) ++ pagesL s := by unfold pagesL; rw [List.flatMap_cons]
    rw [e, List.foldl_append, span_fold hs P last x.1 (fun q hq e => by have := hl q hq x (List.mem_cons_self ..); omega) x.2 h1, pages_fold hs s _ _ h4, piecesL_cons, List.append_assoc]
    rintro q hq y hy
    have := h3 y hy
    simp at hq
    omega
def stG (size : Nat) (A : List Nat) : List (Nat × Nat) × Option Nat := A.foldl (stepG size) ([], none)
theorem stG_pieces {size N : Nat} (hs : 1 ≤ size) {s : List (Nat × Nat)} (h : IsSet N s) : (stG size (pagesL s)).1 = piecesL size s := by
  have := pages_fold hs s [] none h (fun q hq => by cases hq)
  unfold stG; rw [this]; rfl
theorem stG_snoc (size : Nat) (A : List Nat) (p : Nat) : stG size (A ++ [p]) = stepG size (stG size A) p := by simp [stG]
theorem bump_len : ∀ l : List (Nat × Nat), (bump l).length = l.length
  | [] => rfl
  | [_] => rfl
  | x :: y :: l => by show (x :: bump (y :: l)).length = _; rw [List.length_cons, bump_len (y :: l)]; rfl
theorem stG_facts (size : Nat) : ∀ (A : List Nat) (p : Nat), (stG size (A ++ [p])).2 = some p ∧ 1 ≤ (stG size (A ++ [p])).1.length ∧ (stG size A).1.length ≤ A.length := by
  have hlen : ∀ (n : Nat) (A : List Nat), A.length = n → (stG size A).1.length ≤ n ∧ (1 ≤ n → 1 ≤ (stG size A).1.length) := by
    intro n
    induction n with
    | zero => intro A h; rw [List.length_eq_zero_iff.1 h]; exact ⟨Nat.le_refl _, fun h => by omega⟩
    | succ n ih =>
      intro A h
      have hA : A ≠ [] := by intro e; rw [e] at h; simp at h
      obtain ⟨B, p, rfl⟩ : ∃ B p, A = B ++ [p] := ⟨A.dropLast, A.getLast hA, (List.dropLast_concat_getLast hA).symm⟩
      have hB : B.length = n := by simpa using h
      obtain ⟨i1, i2⟩ := ih B hB
      rw [stG_snoc]
      unfold stepG
      simp only
      split
      · rename_i hc
        rw [bump_len]
        have hn : 1 ≤ n := by
          rcases Nat.eq_zero_or_pos n with h0 | h0
          · have : B = [] := List.length_eq_zero_iff.1 (by omega)
            rw [this] at hc
            exact absurd hc.1 (by simp [stG, joinB])
          · exact h0
        exact ⟨by omega, fun _ => i2 hn⟩
      · rw [List.length_append]; simp; omega
  intro A p
  refine ⟨by rw [stG_snoc]; rfl, ?_, (hlen A.length A rfl).1⟩
  exact (hlen (A.length + 1) (A ++ [p]) (by simp)).2 (by omega)
theorem bump_le {n : Nat} : ∀ (l : List (Nat × Nat)), (∀ x ∈ l, x.2 ≤ n) → ∀ x ∈ bump l, x.2 ≤ n + 1
  | [], _, x, hx => by simp [bump] at hx
  | [y], h, x, hx => by
    have := h y (List.mem_cons_self ..)
    obtain rfl : x = (y.1, y.2 + 1) := by simpa [bump] using hx
    simp only; omega
  | y :: z :: l, h, x, hx => by
    rcases List.mem_cons.1 (show x ∈ y :: bump (z :: l) from hx) with rfl | hx
    · have := h x (List.mem_cons_self ..); omega
    · exact bump_le (z :: l) (fun w hw => h w (List.mem_cons_of_mem _ hw)) x hx
theorem stG_small (size : Nat) (A : List Nat) : ∀ x ∈ (stG size A).1, x.2 ≤ A.length := by
  have main : ∀ (n : Nat) (A : List Nat), A.length = n → ∀ x ∈ (stG size A).1, x.2 ≤ n := by
    intro n
    induction n with
    | zero => intro A h x hx; rw [List.length_eq_zero_iff.1 h] at hx; simp [stG] at hx
    | succ n ih =>
      intro A h x hx
      have hA : A ≠ [] := by intro e; rw [e] at h; simp at h
      obtain ⟨B, p, rfl⟩ : ∃ B p, A = B ++ [p] := ⟨A.dropLast, A.getLast hA, (List.dropLast_concat_getLast hA).symm⟩
      have hB : B.length = n := by simpa using h
      rw [stG_snoc] at hx
      unfold stepG at hx
      simp only at hx
      split at hx
      · exact bump_le _ (ih B hB) x hx
      · rcases List.mem_append.1 hx with hx | hx
        · have := ih B hB x hx; omega
        · obtain rfl := List.mem_singleton.1 hx
          simp only; omega
  exact main A.length A rfl
end Go.Proofs.Ytnhbilcpdombfaa
