/- Plain facts for the reference's ParseList: what Int and less say of the numbers of an item. Plain facts for the reference's ParseList: the numbers that its loops append, and when they are too many. Plain facts for the third loop of the reference's ParseList. -/
import Derived.Test.YtgldpdbdgjehkaaGreatDoorRReadMath
import Derived.Test.YtgldpdbdgjehkaaGreatDoorOrder
import Derived.Test.YtgldpdbdgjehkaaGreatDoorExprs
namespace Go.Proofs.YtgldpdbdgjehkaaGreatDoor
open Go

theorem valI_nat {l : List UInt8} (h : natB l = true) : valI l = (dval 0 l : Int) := by
  cases l with
  | nil => cases h
  | cons c r =>
    have hc := (natB_cons h).1
    have hne : c ≠ 45 := fun e => by subst e; exact absurd hc.1 (by decide)
    rw [valI, if_neg hne]
theorem int_nat {l : List UInt8} (h : natB l = true) (mn mx : Int) (h1 : mn ≤ mx) (h2 : mx ≤ 9999) (h0 : 0 ≤ mn) :
    intR l mn mx = if mn ≤ (dval 0 l : Int) ∧ (dval 0 l : Int) ≤ mx then ((dval 0 l : Int), 0) else (0, 7) := by
  rw [intR_val, if_neg (by omega), natB_dec h, if_neg (by decide), valI_nat h]
  by_cases hc : mn ≤ (dval 0 l : Int) ∧ (dval 0 l : Int) ≤ mx
  · rw [if_pos hc, if_pos (by omega)]
  · rw [if_neg hc, if_neg (by omega)]
theorem max_digits : Lib.itoa 9999 = [57, 57, 57, 57] := itoa_val [57, 57, 57, 57] (by decide)
theorem less_max {m : List UInt8} (h : natB m = true) : beforeB (Lib.itoa 9999) m = decide (9999 < cap1 m) := by
  have hn : natB [57, 57, 57, 57] = true := by decide
  have hv : dval 0 [57, 57, 57, 57] = 9999 := by decide
  rw [max_digits, cap1_nat h]
  cases hb : beforeB [57, 57, 57, 57] m
  · have hle : dval 0 m ≤ 9999 := by
      by_cases hm : m = [57, 57, 57, 57]
      · rw [hm, hv]; exact Nat.le_refl _
      · have : beforeB m [57, 57, 57, 57] = true := by
          rw [beforeB_iff]
          have hno : ¬ (([57, 57, 57, 57] : List UInt8).length < m.length ∨ (([57, 57, 57, 57] : List UInt8).length = m.length ∧ Op.bytesLess [57, 57, 57, 57] m = true)) := fun hh => by rw [(beforeB_iff _ _).2 hh] at hb; cases hb
          by_cases hl : m.length < ([57, 57, 57, 57] : List UInt8).length
          · exact .inl hl
          · have he : m.length = ([57, 57, 57, 57] : List UInt8).length := by
              by_cases hx : ([57, 57, 57, 57] : List UInt8).length < m.length
              · exact absurd (.inl hx) hno
              · omega
            rcases less_tri m [57, 57, 57, 57] with h3 | h3 | h3
            · exact .inr ⟨he, h3⟩
            · exact absurd h3 hm
            · exact absurd (.inr ⟨he.symm, h3⟩) hno
        have := before_val h hn this
        rw [hv] at this; omega
    rw [if_pos hle]
    simp; omega
  · have := before_val hn h hb
    rw [hv] at this
    rw [if_neg (by omega)]; simp
/-- What a read item's texts are. -/
theorem readI_parts {l : List UInt8} (h : (readI l).2 = true) :
    natB (readI l).1.1 = true ∧ natB (readI l).1.2.1 = true ∧ natB (readI l).1.2.2 = true ∧ 1 ≤ dval 0 (readI l).1.2.2 ∧ dval 0 (readI l).1.1 ≤ dval 0 (readI l).1.2.1 ∧ ((readI l).1.2.2 = [49] ∨ (readI l).1.1 = (readI l).1.2.1) := by
  have h49 : natB [49] = true := by decide
  have hv : dval 0 [49] = 1 := by decide
  unfold readI at h ⊢
  cases hc : cutI l with
  | none =>
    rw [hc] at h
    exact ⟨h, h, h49, by show 1 ≤ dval 0 [49]; rw [hv]; exact Nat.le_refl _, Nat.le_refl _, .inl rfl⟩
  | some x =>
    obtain ⟨a, c, b⟩ := x
    rw [hc] at h
    simp only at h ⊢
    by_cases h45 : c = 45
    · rw [if_pos h45] at h ⊢
      simp only [Bool.and_eq_true] at h
      exact ⟨h.1.1, h.1.2, h49, by show 1 ≤ dval 0 [49]; rw [hv]; exact Nat.le_refl _, Nat.le_of_lt (before_val h.1.1 h.1.2 h.2), .inl rfl⟩
    · rw [if_neg h45] at h ⊢
      simp only [Bool.and_eq_true] at h
      have := before_val h49 h.1.1 h.2
      rw [hv] at this
      exact ⟨h.1.2, h.1.2, h.1.1, by show 1 ≤ dval 0 a; omega, Nat.le_refl _, .inr rfl⟩
end Go.Proofs.YtgldpdbdgjehkaaGreatDoor
namespace Go.Proofs.YtgldpdbdgjehkaaGreatDoor
open Go

/-- The numbers from n on, so many of them. -/
def upR (n : Int) (c : Nat) : List Int := (List.range c).map fun (i : Nat) => n + (i : Int)
theorem upR_succ (n : Int) (c : Nat) : upR n (c + 1) = upR n c ++ [n + (c : Int)] := by simp [upR, List.range_succ]
/-- A row of them, so many times. -/
def rowsR (n : Int) (c t : Nat) : List Int := (List.range t).flatMap fun _ => upR n c
theorem rowsR_succ (n : Int) (c t : Nat) : rowsR n c (t + 1) = rowsR n c t ++ upR n c := by simp [rowsR, List.range_succ]
theorem upR_length (n : Int) (c : Nat) : (upR n c).length = c := by simp [upR]
theorem rowsR_length (n : Int) (c : Nat) : ∀ t : Nat, (rowsR n c t).length = t * c
  | 0 => by simp [rowsR]
  | t + 1 => by rw [rowsR_succ, List.length_append, rowsR_length n c t, upR_length, Nat.succ_mul]
theorem flat_single (n : Int) : ∀ c : Nat, ((List.range c).flatMap fun (i : Nat) => List.replicate 1 (n + (i : Int))) = upR n c
  | 0 => rfl
  | c + 1 => by rw [List.range_succ, List.flatMap_append, flat_single n c, upR_succ]; simp
theorem rows_single (n : Int) : ∀ t : Nat, rowsR n 1 t = List.replicate t n
  | 0 => rfl
  | t + 1 => by rw [rowsR_succ, rows_single n t, List.replicate_succ']; simp [upR]
theorem nums_rows (r : Run) (h1 : r.first ≤ r.last) (h : r.times = 1 ∨ r.first = r.last) : r.nums = rowsR r.first (r.last - r.first + 1).toNat r.times.toNat := by
  unfold Run.nums numsUpto
  rcases h with h | h
  · rw [h, show r.last + 1 - r.first = r.last - r.first + 1 by omega, show (1 : Int).toNat = 1 from rfl, flat_single]
    simp [rowsR]
  · rw [h, show r.last + 1 - r.last = 1 by omega, show r.last - r.last + 1 = 1 by omega, show (1 : Int).toNat = 1 from rfl, rows_single]
    simp
/-- The sum is past 500 as soon as the sum of the first ones is. -/
theorem sizes_part {rs : List Run} (hg : ∀ r ∈ rs, r.Good) (k : Nat) : sizes (rs.take k) ≤ sizes rs := by
  have h := sizes_bd (rs := rs.drop k) (fun r hr => hg r (List.mem_of_mem_drop hr))
  have : ∀ a b : List Run, sizes (a ++ b) = sizes a + sizes b := by
    intro a b
    induction a with
    | nil => simp [sizes]
    | cons x r ih => simp only [List.cons_append, sizes, ih]; omega
  have e := this (rs.take k) (rs.drop k)
  rw [List.take_append_drop] at e; omega
end Go.Proofs.YtgldpdbdgjehkaaGreatDoor
namespace Go.Proofs.YtgldpdbdgjehkaaGreatDoor
open Go

/-- What Int says of the texts of an item that was read, and whose greater number is not too great. -/
theorem item_ints {p : List UInt8} (h : (readI p).2 = true) (hm : ¬ 9999 < cap1 (readI p).1.2.1) :
    intR (readI p).1.1 0 9999 = ((itemR p).1.first, 0) ∧ intR (readI p).1.2.1 0 9999 = ((itemR p).1.last, 0) ∧
    (((itemR p).1.times ≤ 500 ∧ intR (readI p).1.2.2 1 500 = ((itemR p).1.times, 0)) ∨ (500 < (itemR p).1.times ∧ intR (readI p).1.2.2 1 500 = (0, 7))) ∧
    (itemR p).1.Good ∧ (itemR p).1.last ≤ 9999 ∧ ((itemR p).1.times = 1 ∨ (itemR p).1.first = (itemR p).1.last) := by
  obtain ⟨n1, n2, n3, h1, h2, h3⟩ := readI_parts h
  have e := (readI_item p).2 h
  have hc2 := cap_of n2 (by omega)
  have hc1 := cap1_nat n1
  have hc3 := cap1_nat n3
  rw [if_pos (by omega)] at hc1
  rw [e]
  generalize (readI p).1.1 = a at *
  generalize (readI p).1.2.1 = b at *
  generalize (readI p).1.2.2 = t at *
  have i1 := int_nat n1 0 9999 (by omega) (by omega) (by omega)
  have i2 := int_nat n2 0 9999 (by omega) (by omega) (by omega)
  have i3 := int_nat n3 1 500 (by omega) (by omega) (by omega)
  rw [if_pos (by omega)] at i1 i2
  have g3 : 1 ≤ cap1 t ∧ cap1 t ≤ 10000 := by rw [hc3]; split <;> omega
  refine ⟨by rw [i1]; simp only; rw [hc1], by rw [i2]; simp only; rw [hc2.1], ?_, ⟨?_, ?_, ?_, g3.1, g3.2⟩, ?_, ?_⟩
  · by_cases hs : dval 0 t ≤ 500
    · left
      rw [if_pos (by omega)] at hc3 i3
      exact ⟨by simp only; omega, by rw [i3]; simp only; rw [hc3]⟩
    · right
      rw [if_neg (by omega)] at i3
      refine ⟨?_, i3⟩
      simp only
      rw [hc3]; split <;> omega
  · simp only; omega
  · simp only; omega
  · simp only; omega
  · simp only; omega
  · rcases h3 with h3 | h3
    · left; simp only; rw [h3, cap1_one]
    · right; simp only; rw [h3]
theorem up_mem (n : Int) (c : Nat) : (upR n c).length = c := upR_length n c
theorem run_rows {r : Run} (hg : r.Good) (h : r.times = 1 ∨ r.first = r.last) : r.nums = rowsR r.first (r.last - r.first + 1).toNat r.times.toNat := nums_rows r hg.fl h
theorem rows_le {r : Run} (hg : r.Good) (h5 : r.size ≤ 500) (t c : Nat) (ht : (t : Int) ≤ r.times) (hc : (c : Int) ≤ r.last - r.first + 1) :
    (rowsR r.first (r.last - r.first + 1).toNat t).length + (upR r.first c).length ≤ 1000 := by
  rw [rowsR_length, upR_length]
  obtain ⟨f0, fl, l1, t1, t2⟩ := hg
  have hs : ((r.last - r.first + 1).toNat * r.times.toNat : Nat) ≤ 500 := by
    have e : (((r.last - r.first + 1).toNat * r.times.toNat : Nat) : Int) = r.size := by
      unfold Run.size
      rw [Int.natCast_mul, Int.toNat_of_nonneg (by omega), Int.toNat_of_nonneg (by omega)]
    omega
  have h1 : t * (r.last - r.first + 1).toNat ≤ r.times.toNat * (r.last - r.first + 1).toNat := Nat.mul_le_mul_right _ (by omega)
  have h2 : (r.last - r.first + 1).toNat * 1 ≤ (r.last - r.first + 1).toNat * r.times.toNat := Nat.mul_le_mul_left _ (by omega)
  rw [Nat.mul_comm r.times.toNat] at h1
  omega
theorem readI_len (l : List UInt8) : (readI l).1.1.length ≤ l.length + 1 ∧ (readI l).1.2.1.length ≤ l.length + 1 ∧ (readI l).1.2.2.length ≤ l.length + 1 := by
  unfold readI
  cases h : cutI l with
  | none => exact ⟨by show l.length ≤ _; omega, by show l.length ≤ _; omega, by show 1 ≤ _; omega⟩
  | some x =>
    obtain ⟨a, c, b⟩ := x
    obtain ⟨e, _, _⟩ := cutI_some l a b c h
    have hl : l.length = a.length + (b.length + 1) := by rw [e]; simp
    simp only
    by_cases hc : c = 45
    · rw [if_pos hc]; exact ⟨by show a.length ≤ _; omega, by show b.length ≤ _; omega, by show 1 ≤ _; omega⟩
    · rw [if_neg hc]; exact ⟨by show b.length ≤ _; omega, by show b.length ≤ _; omega, by show a.length ≤ _; omega⟩
end Go.Proofs.YtgldpdbdgjehkaaGreatDoor
