/- Plain facts on the best expressions of a list (no program's run). -/
import Derived.Test.YtgldpdbdgjehkaaGreatDoorItems
namespace Go.Proofs.YtgldpdbdgjehkaaGreatDoor
open Go

/-- The better one of two texts; nothing is the worst. -/
def upd (b s : List UInt8) : List UInt8 := if b = [] ∨ beforeB s b = true then s else b
/-- The expression that begins with an item, of m numbers; t: the best expressions of what is behind the first number. -/
def cand (t : List (List UInt8)) (m : Nat) (x : It) : List UInt8 := x.text ++ (if x.count < m then 44 :: t[x.count - 1]?.getD [] else [])
/-- The best expressions of a list and of all that is behind its first numbers. -/
def bests : List Int → List (List UInt8)
  | [] => [[]]
  | x :: r => (itemsL (x :: r)).foldl (fun b it => upd b (cand (bests r) (r.length + 1) it)) [] :: bests r
def canonL (l : List Int) : List UInt8 := (bests l).headD []
theorem bests_length (l : List Int) : (bests l).length = l.length + 1 := by
  induction l with
  | nil => rfl
  | cons x r ih => simp [bests, ih]
theorem upd_len {b s : List UInt8} {M : Nat} (hb : b.length ≤ M) (hs : s.length ≤ M) : (upd b s).length ≤ M := by
  unfold upd; split <;> assumption
theorem fold_len {t : List (List UInt8)} {m M : Nat} : ∀ (xs : List It) (b : List UInt8), (∀ x ∈ xs, (cand t m x).length ≤ M) → b.length ≤ M → (xs.foldl (fun b it => upd b (cand t m it)) b).length ≤ M
  | [], _, _, hb => hb
  | x :: xs, b, h, hb => fold_len xs _ (fun y hy => h y (List.mem_cons_of_mem _ hy)) (upd_len hb (h x (by simp)))
theorem cand_len {t : List (List UInt8)} {m M : Nat} {x : It} (hx : ItGood x) (ht : ∀ s ∈ t, s.length ≤ M) : (cand t m x).length ≤ M + 51 := by
  unfold cand
  have h3 := hx.2.2.1
  split
  · cases hg : t[x.count - 1]? with
    | none => simp; omega
    | some s => have := ht s (List.mem_of_getElem? hg); simp; omega
  · simp; omega
theorem ups_good (l : List Int) (hl : l.length ≤ 500) (hrg : ∀ k, 0 ≤ at0 l k ∧ at0 l k ≤ 9999) : ∀ (f m : Nat), 1 ≤ m → ∀ x ∈ upsL l f m, ItGood x
  | 0, _, _, x, h => by simp [upsL] at h
  | f + 1, m, hm, x, h => by
    rw [upsL] at h
    split at h
    · rename_i hc
      rcases List.mem_cons.1 h with rfl | h
      · have h0 := Lib.itoa_length_le (at0 l 0) (by have := hrg 0; omega) (by have := hrg 0; omega)
        have h1 := Lib.itoa_length_le (at0 l (m - 1)) (by have := hrg (m - 1); omega) (by have := hrg (m - 1); omega)
        exact ⟨hm, by show m ≤ 500; omega, by simp only [List.length_append, List.length_cons, List.length_nil]; omega, by simp⟩
      · exact ups_good l hl hrg f (m + 1) (by omega) x h
    · simp at h
theorem sames_good (l : List Int) (hl : l.length ≤ 500) (hrg : ∀ k, 0 ≤ at0 l k ∧ at0 l k ≤ 9999) : ∀ (f m : Nat), 1 ≤ m → ∀ x ∈ samesL l f m, ItGood x
  | 0, _, _, x, h => by simp [samesL] at h
  | f + 1, m, hm, x, h => by
    rw [samesL] at h
    split at h
    · rename_i hc
      rcases List.mem_cons.1 h with rfl | h
      · have h0 := Lib.itoa_length_le (at0 l 0) (by have := hrg 0; omega) (by have := hrg 0; omega)
        have h1 := Lib.itoa_length_le (m : Int) (by omega) (by omega)
        exact ⟨hm, by show m ≤ 500; omega, by simp only [List.length_append, List.length_cons, List.length_nil]; omega, by simp⟩
      · exact sames_good l hl hrg f (m + 1) (by omega) x h
    · simp at h
theorem items_good (l : List Int) (hl : l.length ≤ 500) (hrg : ∀ k, 0 ≤ at0 l k ∧ at0 l k ≤ 9999) : ∀ x ∈ itemsL l, ItGood x := by
  intro x h
  unfold itemsL at h
  rw [List.cons_append] at h
  rcases List.mem_cons.1 h with rfl | h
  · have h0 := Lib.itoa_length_le (at0 l 0) (by have := hrg 0; omega) (by have := hrg 0; omega)
    exact ⟨Nat.le_refl _, by show 1 ≤ 500; omega, by show (Lib.itoa (at0 l 0)).length ≤ 50; omega, itoa_ne _⟩
  · rcases List.mem_append.1 h with h | h
    · exact ups_good l hl hrg _ 2 (by omega) x h
    · exact sames_good l hl hrg _ 2 (by omega) x h
theorem at0_range {l : List Int} (h : ∀ n ∈ l, 0 ≤ n ∧ n ≤ 9999) (k : Nat) : 0 ≤ at0 l k ∧ at0 l k ≤ 9999 := by
  unfold at0
  cases hg : l[k]? with
  | none => simp
  | some n => exact h n (List.mem_of_getElem? hg)
theorem bests_len : ∀ (l : List Int), l.length ≤ 500 → (∀ n ∈ l, 0 ≤ n ∧ n ≤ 9999) → ∀ s ∈ bests l, s.length ≤ 51 * l.length
  | [], _, _, s, h => by simp [bests] at h; subst h; simp
  | x :: r, hl, hrg, s, h => by
    have hr : r.length ≤ 500 := by simp at hl; omega
    have ih := bests_len r hr (fun n hn => hrg n (List.mem_cons_of_mem _ hn))
    rw [bests] at h
    rcases List.mem_cons.1 h with rfl | h
    · refine fold_len _ _ (fun y hy => ?_) (by simp)
      have := cand_len (m := r.length + 1) (items_good _ hl (at0_range hrg) y hy) ih
      simp only [List.length_cons]; omega
    · have := ih s h; simp only [List.length_cons]; omega
end Go.Proofs.YtgldpdbdgjehkaaGreatDoor
