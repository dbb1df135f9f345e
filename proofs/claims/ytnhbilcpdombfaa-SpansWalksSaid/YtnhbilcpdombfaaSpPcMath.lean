/- Pieces and pages: plain mathematics. -/
import Derived.Test.YtnhbilcpdombfaaSpGen
import Derived.Test.YtnhbilcpdombfaaSpCount
namespace Go.Proofs.Ytnhbilcpdombfaa
open Go.RowKit

theorem piecesL_cons (size : Nat) (x : Nat × Nat) (s : List (Nat × Nat)) : piecesL size (x :: s) = cutP size x.2 x.1 (x.1 + x.2) ++ piecesL size s := by unfold piecesL; rw [List.flatMap_cons]
theorem set_cons {N : Nat} {x : Nat × Nat} {s : List (Nat × Nat)} (h : IsSet N (x :: s)) : (1 ≤ x.2 ∧ x.1 + x.2 ≤ N) ∧ (∀ y ∈ s, x.1 + x.2 < y.1) ∧ IsSet N s :=
  ⟨h.run x (List.mem_cons_self ..), (List.pairwise_cons.1 h.gap).1, fun y hy => h.run y (List.mem_cons_of_mem _ hy), (List.pairwise_cons.1 h.gap).2⟩
/-- How two neighbours lie. -/
def NextP (size : Nat) (x y : Nat × Nat) : Prop := x.1 + x.2 < y.1 ∨ (x.1 + x.2 = y.1 ∧ y.1 % size = 0)
def ChainP (size : Nat) : List (Nat × Nat) → Prop
  | [] => True
  | x :: l => (∀ y, l.head? = some y → NextP size x y) ∧ ChainP size l
/-- Each piece lies from a on, below e, in one multiple of the size. -/
def PieceIn (size a e : Nat) (x : Nat × Nat) : Prop := a ≤ x.1 ∧ 1 ≤ x.2 ∧ x.1 + x.2 ≤ e ∧ x.1 / size = (x.1 + x.2 - 1) / size
theorem toP_facts {size a e : Nat} (h : a < e) (hs : 1 ≤ size) : a / size = (toP size a e - 1) / size ∧ (toP size a e < e → toP size a e % size = 0) := by
  have h1 := Nat.mod_lt a hs
  have h2 := Nat.div_add_mod a size
  have h3 : a - a % size + size = size * (a / size + 1) := by rw [Nat.mul_add]; omega
  obtain ⟨h4, h5⟩ := toP_lt h hs
  have h6 : toP size a e ≤ size * (a / size + 1) := by unfold toP; omega
  constructor
  · symm
    refine (Nat.div_eq_iff (by omega)).2 ⟨?_, ?_⟩
    · rw [Nat.mul_comm]; omega
    · rw [Nat.mul_add] at h6; rw [Nat.mul_comm (a / size)]; omega
  · intro h7
    have : toP size a e = size * (a / size + 1) := by unfold toP at h7 ⊢; omega
    rw [this]; exact Nat.mul_mod_right _ _
theorem cutP_good {size : Nat} (hs : 1 ≤ size) : ∀ f a e, e - a ≤ f → (∀ x ∈ cutP size f a e, PieceIn size a e x) ∧ ChainP size (cutP size f a e) ∧ (∀ y, (cutP size f a e).head? = some y → y.1 = a) ∧ (∀ p, a ≤ p → p < e → ∃ x ∈ cutP size f a e, x.1 ≤ p ∧ p < x.1 + x.2) ∧ (cutP size f a e).length ≤ e - a
  | 0, a, e, h => ⟨fun x hx => by simp [cutP] at hx, trivial, fun y h => by simp [cutP] at h, fun p h1 h2 => by omega, by simp [cutP]⟩
  | f + 1, a, e, h => by
    rw [cutP_succ]
    by_cases hlt : a < e
    · rw [if_pos hlt]
      obtain ⟨h1, h2⟩ := toP_lt hlt hs
      obtain ⟨h3, h4⟩ := toP_facts hlt hs
      obtain ⟨i1, i2, i3, i4, i5⟩ := cutP_good hs f (toP size a e) e (by omega)
      generalize toP size a e = t at h1 h2 h3 h4 i1 i2 i3 i4 i5
      refine ⟨fun x hx => ?_, ⟨fun y hy => ?_, i2⟩, fun y hy => ?_, fun p hp1 hp2 => ?_, ?_⟩
      · rcases List.mem_cons.1 hx with rfl | hx
        · exact ⟨Nat.le_refl _, by simp only; omega, by simp only; omega, by simp only; rw [show a + (t - a) - 1 = t - 1 by omega]; exact h3⟩
        · obtain ⟨j1, j2, j3, j4⟩ := i1 x hx
          exact ⟨by omega, j2, j3, j4⟩
      · have := i3 y hy
        have hm : y ∈ cutP size f t e := List.mem_of_mem_head? hy
        obtain ⟨j1, j2, j3, j4⟩ := i1 y hm
        exact .inr ⟨by simp only; omega, by rw [this]; exact h4 (by omega)⟩
      · simp at hy; rw [← hy]
      · by_cases hp : p < t
        · exact ⟨_, List.mem_cons_self .., hp1, by simp only; omega⟩
        · obtain ⟨x, hx, hx2⟩ := i4 p (by omega) hp2
          exact ⟨x, List.mem_cons_of_mem _ hx, hx2⟩
      · rw [List.length_cons]; omega
    · rw [if_neg hlt]
      exact ⟨fun x hx => by simp at hx, trivial, fun y h => by simp at h, fun p h1 h2 => by omega, by simp⟩
theorem chain_append {size : Nat} : ∀ {l m : List (Nat × Nat)}, ChainP size l → ChainP size m → (∀ x ∈ l, ∀ y, m.head? = some y → NextP size x y) → ChainP size (l ++ m)
  | [], _, _, hm, _ => hm
  | x :: l, m, hl, hm, h => by
    refine ⟨fun y hy => ?_, chain_append hl.2 hm fun z hz => h z (List.mem_cons_of_mem _ hz)⟩
    cases l with
    | nil => exact h x (List.mem_cons_self ..) y hy
    | cons z l => exact hl.1 y hy
theorem chain_get {size : Nat} : ∀ {l : List (Nat × Nat)}, ChainP size l → ∀ i (h : i + 1 < l.length), NextP size (l[i]'(by omega)) (l[i + 1]'h)
  | [], _, i, h => by simp at h
  | x :: l, hl, 0, h => hl.1 _ (by cases l with | nil => simp at h | cons y l => rfl)
  | x :: l, hl, i + 1, h => chain_get hl.2 i (by simpa using h)
theorem pieces_facts {size N : Nat} (hs : 1 ≤ size) : ∀ {s : List (Nat × Nat)}, IsSet N s → (∀ x ∈ piecesL size s, 1 ≤ x.2 ∧ x.1 + x.2 ≤ N ∧ x.1 / size = (x.1 + x.2 - 1) / size) ∧ ChainP size (piecesL size s) ∧
    (∀ a, (∀ x ∈ s, a ≤ x.1) → (piecesL size s).length ≤ N - a) ∧ (∀ x ∈ piecesL size s, ∃ y ∈ s, y.1 ≤ x.1 ∧ x.1 + x.2 ≤ y.1 + y.2) ∧ (∀ p, inS (piecesL size s) p = inS s p)
  | [], _ => ⟨fun x hx => by simp [piecesL] at hx, trivial, fun a _ => by simp [piecesL], fun x hx => by simp [piecesL] at hx, fun p => rfl⟩
  | x :: s, h => by
    obtain ⟨⟨h1, h2⟩, h3, h4⟩ := set_cons h
    obtain ⟨i1, i2, i3, i4, i5⟩ := pieces_facts hs h4
    obtain ⟨j1, j2, j3, j4, j5⟩ := cutP_good hs x.2 x.1 (x.1 + x.2) (by omega)
    rw [piecesL_cons]
    refine ⟨fun y hy => ?_, chain_append j2 i2 fun y hy z hz => ?_, fun a ha => ?_, fun y hy => ?_, fun p => ?_⟩
    · rcases List.mem_append.1 hy with hy | hy
      · obtain ⟨k1, k2, k3, k4⟩ := j1 y hy
        exact ⟨k2, by omega, k4⟩
      · exact i1 y hy
    · obtain ⟨k1, k2, k3, k4⟩ := j1 y hy
      obtain ⟨w, hw, w1, w2⟩ := i4 z (List.mem_of_mem_head? hz)
      have := h3 w hw
      exact .inl (by omega)
    · have := i3 (x.1 + x.2) (fun y hy => by have := h3 y hy; omega)
      have := ha x (List.mem_cons_self ..)
      rw [List.length_append]; omega
    · rcases List.mem_append.1 hy with hy | hy
      · obtain ⟨k1, k2, k3, k4⟩ := j1 y hy
        exact ⟨x, List.mem_cons_self .., k1, k3⟩
      · obtain ⟨w, hw, w1, w2⟩ := i4 y hy
        exact ⟨w, List.mem_cons_of_mem _ hw, w1, w2⟩
    · have e1 : inS (cutP size x.2 x.1 (x.1 + x.2) ++ piecesL size s) p = (inS (cutP size x.2 x.1 (x.1 + x.2)) p || inS (piecesL size s) p) := by unfold inS; rw [List.any_append]
      have e2 : inS (x :: s) p = ((decide (x.1 ≤ p) && decide (p < x.1 + x.2)) || inS s p) := by unfold inS; rw [List.any_cons]
      rw [e1, e2, i5 p]
      congr 1
      rw [Bool.eq_iff_iff, inS_iff]
      simp only [Bool.and_eq_true, decide_eq_true_eq]
      constructor
      · rintro ⟨y, hy, y1, y2⟩
        obtain ⟨k1, k2, k3, k4⟩ := j1 y hy
        exact ⟨by omega, by omega⟩
      · rintro ⟨p1, p2⟩
        exact j4 p p1 p2
theorem cut_one : ∀ f a e, e - a ≤ f → (cutP 1 f a e).length = e - a ∧ (cutP 1 f a e).map (·.1) = (List.range (e - a)).map (a + ·)
  | 0, a, e, h => by have : e - a = 0 := by omega
                     rw [this]; exact ⟨rfl, rfl⟩
  | f + 1, a, e, h => by
    rw [cutP_succ]
    by_cases hlt : a < e
    · rw [if_pos hlt]
      have ht : toP 1 a e = a + 1 := by unfold toP; rw [Nat.mod_one]; omega
      rw [ht]
      obtain ⟨i1, i2⟩ := cut_one f (a + 1) e (by omega)
      obtain ⟨d, hd⟩ : ∃ d, e - a = d + 1 := ⟨e - a - 1, by omega⟩
      have hd2 : e - (a + 1) = d := by omega
      rw [hd2] at i1 i2
      rw [hd]
      refine ⟨by rw [List.length_cons, i1], ?_⟩
      rw [List.map_cons, i2, List.range_succ_eq_map, List.map_cons, List.map_map]
      congr 1
      apply List.map_congr_left
      intro q _
      simp only [Function.comp]; omega
    · rw [if_neg hlt]
      have : e - a = 0 := by omega
      rw [this]; exact ⟨rfl, rfl⟩
/-- The pages of a set, ascending. -/
def pagesL (s : List (Nat × Nat)) : List Nat := s.flatMap fun x => (List.range x.2).map (x.1 + ·)
theorem pages_one : ∀ s : List (Nat × Nat), (piecesL 1 s).map (·.1) = pagesL s
  | [] => rfl
  | x :: s => by
    rw [piecesL_cons, List.map_append, pages_one s]
    obtain ⟨_, h2⟩ := cut_one x.2 x.1 (x.1 + x.2) (by omega)
    rw [h2, show x.1 + x.2 - x.1 = x.2 by omega]
    unfold pagesL; rw [List.flatMap_cons]
theorem sum_fold : ∀ (s : List (Nat × Nat)) (n : Nat), s.foldl (fun n x => n + x.2) n = n + sumS s
  | [], n => rfl
  | x :: s, n => by
    unfold sumS
    rw [List.foldl_cons, List.foldl_cons, sum_fold s, sum_fold s]; omega
theorem pages_len : ∀ s : List (Nat × Nat), (pagesL s).length = sumS s
  | [] => rfl
  | x :: s => by
    have e : pagesL (x :: s) = (List.range x.2).map (x.1 + ·) ++ pagesL s := by unfold pagesL; rw [List.flatMap_cons]
    have e2 : sumS (x :: s) = x.2 + sumS s := by
      have := sum_fold s (0 + x.2)
      unfold sumS at this ⊢
      rw [List.foldl_cons, this]; omega
    rw [e, e2, List.length_append, List.length_map, List.length_range, pages_len s]
end Go.Proofs.Ytnhbilcpdombfaa
