/- The lines of a script: plain facts. -/
import Derived.Test.YtgldpdbdgjehkaaGreatDoorParse
namespace Go.Proofs.YtgldpdbdgjehkaaGreatDoor
open Go.RowKit

theorem pieces_sep (c : UInt8) : ∀ l : List UInt8, pieces c (l ++ [c]) = pieces c l ++ [[]]
  | [] => by simp [pieces]
  | b :: l => by
    have ih := pieces_sep c l
    have hn := pieces_ne c l
    rw [List.cons_append, pieces, pieces, ih]
    by_cases hb : b = c
    · rw [if_pos hb, if_pos hb]; rfl
    · rw [if_neg hb, if_neg hb]
      cases hp : pieces c l with
      | nil => exact absurd hp hn
      | cons p ps => simp
theorem pieces_more (c b : UInt8) (hb : b ≠ c) : ∀ (l : List UInt8) (init : List (List UInt8)) (last : List UInt8), pieces c l = init ++ [last] → pieces c (l ++ [b]) = init ++ [last ++ [b]]
  | [], init, last, h => by
    have : init = [] ∧ last = [] := by
      cases init with
      | nil => simp [pieces] at h; exact ⟨rfl, h⟩
      | cons x xs => simp [pieces] at h
    obtain ⟨rfl, rfl⟩ := this
    simp [pieces, hb]
  | a :: l, init, last, h => by
    rw [List.cons_append, pieces]
    rw [pieces] at h
    by_cases ha : a = c
    · rw [if_pos ha] at h ⊢
      cases init with
      | nil =>
        simp at h
        exact absurd h.2 (pieces_ne c l)
      | cons x xs =>
        simp only [List.cons_append, List.cons.injEq] at h
        obtain ⟨rfl, h⟩ := h
        rw [pieces_more c b hb l xs last h]; rfl
    · rw [if_neg ha] at h ⊢
      cases hp : pieces c l with
      | nil => exact absurd hp (pieces_ne c l)
      | cons p ps =>
        rw [hp] at h
        simp only at h
        cases ps with
        | nil =>
          have e : init = [] ∧ last = a :: p := by
            cases init with
            | nil => simp at h; exact ⟨rfl, h.symm⟩
            | cons x xs => simp at h
          obtain ⟨rfl, rfl⟩ := e
          rw [pieces_more c b hb l [] p (by rw [hp]; rfl)]; rfl
        | cons q qs =>
          cases init with
          | nil => simp at h
          | cons x xs =>
            simp only [List.cons_append, List.cons.injEq] at h
            obtain ⟨rfl, h⟩ := h
            rw [pieces_more c b hb l (p :: xs) last (by rw [hp, h]; rfl)]; rfl
theorem pieces_num (c : UInt8) : ∀ l : List UInt8, (pieces c l).length = Lib.countByte l c + 1
  | [] => rfl
  | b :: l => by
    have ih := pieces_num c l
    unfold Lib.countByte at ih ⊢
    rw [pieces, List.count_cons]
    by_cases hb : b = c
    · rw [if_pos hb]; simp [hb, ih]
    · rw [if_neg hb]
      cases hp : pieces c l with
      | nil => exact absurd hp (pieces_ne c l)
      | cons p ps => rw [hp] at ih; simp [hb] at ih ⊢; exact ih
/-- The lines of a script. -/
def linesR (l : List UInt8) : List (List UInt8) × Int :=
  if 1048576 < l.length then ([], 3) else if l = [] then ([], 0) else if l.getLast? ≠ some 10 then ([], 6) else
  if 5000 < Lib.countByte l 10 then ([], 3) else (pieces 10 l.dropLast, 0)
theorem lines_body {l : List UInt8} (h : l.getLast? = some 10) : l = l.dropLast ++ [10] := by
  cases l with
  | nil => cases h
  | cons c r =>
    have hne : c :: r ≠ [] := by simp
    have := List.dropLast_concat_getLast hne
    rw [List.getLast?_eq_some_getLast hne] at h
    rw [Option.some.inj h] at this
    exact this.symm
theorem suffix_yes {l : List UInt8} (h : l.getLast? = some 10) : Lib.hasSuffix l [10] = true ∧ Lib.trimSuffix l [10] = l.dropLast := by
  have e := lines_body h
  have h1 : Lib.hasSuffix l [10] = true := by
    unfold Lib.hasSuffix
    rw [List.isSuffixOf_iff_suffix]
    exact ⟨l.dropLast, e.symm⟩
  refine ⟨h1, ?_⟩
  unfold Lib.trimSuffix
  rw [if_pos h1]
  exact List.dropLast_eq_take.symm
theorem suffix_no {l : List UInt8} (h : l.getLast? ≠ some 10) : Lib.hasSuffix l [10] = false := by
  cases hx : Lib.hasSuffix l [10] with
  | false => rfl
  | true =>
    unfold Lib.hasSuffix at hx
    rw [List.isSuffixOf_iff_suffix] at hx
    obtain ⟨t, rfl⟩ := hx
    exact absurd (by simp) h
theorem count_body {l : List UInt8} (h : l.getLast? = some 10) : Lib.countByte l 10 = (pieces 10 l.dropLast).length := by
  rw [pieces_num]
  conv => lhs; rw [lines_body h]
  simp [Lib.countByte]
theorem last_at (s : ByteArray) (h : 0 < s.size) : s.data.toList.getLast? = some (s[s.size - 1]'(by omega)) := by
  rw [List.getLast?_eq_getElem?, size_list, List.getElem?_eq_getElem (by rw [size_list]; omega)]; rfl
end Go.Proofs.YtgldpdbdgjehkaaGreatDoor
