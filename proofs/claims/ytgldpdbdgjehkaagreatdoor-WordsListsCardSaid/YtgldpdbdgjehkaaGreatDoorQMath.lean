/- Plain facts on doubling and halving double quotes (no program). -/
import Derived.Lib.Replace
import Derived.Lib.CountLaws
namespace Go.Proofs.YtgldpdbdgjehkaaGreatDoor
open Go

def rep (old new : List UInt8) : Nat → List UInt8 → List UInt8
  | 0, s => s
  | _ + 1, [] => []
  | f + 1, b :: l => if old.isPrefixOf (b :: l) then new ++ rep old new f ((b :: l).drop old.length) else b :: rep old new f l
theorem replaceK_rep (old new : List UInt8) (ho : old ≠ []) : ∀ (f : Nat) (s : List UInt8), s.length ≤ f → Lib.replaceK old new (Lib.count s old) s = rep old new f s := by
  have hempty : Lib.index [] old = -1 := by cases old with | nil => exact absurd rfl ho | cons a t => rfl
  have hlen : 1 ≤ old.length := by cases old with | nil => exact absurd rfl ho | cons a t => simp
  intro f
  induction f with
  | zero =>
    intro s hs
    obtain rfl : s = [] := List.length_eq_zero_iff.1 (by omega)
    rw [Lib.count_miss hempty]; rfl
  | succ f ih =>
    intro s hs
    cases s with
    | nil => rw [Lib.count_miss hempty]; rfl
    | cons b l =>
      simp only [List.length_cons] at hs
      by_cases hp : old.isPrefixOf (b :: l) = true
      · have hi : Lib.index (b :: l) old = (0 : Nat) := by rw [Lib.index, if_pos hp]; rfl
        rw [Lib.count_hit ho hi, Nat.add_comm 1, Lib.replaceK_hit _ _ _ _ 0 hi, rep, if_pos hp, ih _ (by simp; omega)]
        simp
      · have hidx : Lib.index (b :: l) old = if Lib.index l old == -1 then -1 else Lib.index l old + 1 := by rw [Lib.index, if_neg hp]
        rw [rep, if_neg hp, ← ih l (by omega)]
        by_cases hm : Lib.index l old = -1
        · have : Lib.index (b :: l) old = -1 := by rw [hidx, hm]; rfl
          rw [Lib.count_miss this, Lib.count_miss hm]; rfl
        · have hge := Lib.index_ge l old
          obtain ⟨i, hi⟩ : ∃ i : Nat, Lib.index l old = i := ⟨(Lib.index l old).toNat, by omega⟩
          have hi1 : Lib.index (b :: l) old = ((i + 1 : Nat) : Int) := by
            rw [hidx, if_neg (by simpa using hm), hi]; omega
          rw [Lib.count_hit ho hi1, Lib.count_hit ho hi, Nat.add_comm 1, Lib.replaceK_hit _ _ _ _ _ hi1, Nat.add_comm 1, Lib.replaceK_hit _ _ _ _ _ hi]
          have e : (b :: l).drop (i + 1 + old.length) = l.drop (i + old.length) := by rw [show i + 1 + old.length = (i + old.length) + 1 by omega, List.drop_succ_cons]
          rw [e]; simp
theorem replaceAll_rep (old new s : List UInt8) (ho : old ≠ []) (hn : (old == new) = false) : Lib.replaceAll s old new = rep old new s.length s := by
  rw [Lib.replaceAll, Lib.replace, hn, ← replaceK_rep old new ho s.length s (Nat.le_refl _)]
  simp [Lib.replaceNum]

/-- Each double quote doubled. -/
def dbl : List UInt8 → List UInt8
  | [] => []
  | b :: l => if b = 34 then 34 :: 34 :: dbl l else b :: dbl l
/-- Each pair of double quotes halved, from the left. -/
def und : List UInt8 → List UInt8
  | [] => []
  | [b] => [b]
  | a :: b :: l => if a = 34 ∧ b = 34 then 34 :: und l else a :: und (b :: l)
theorem rep_dbl : ∀ (f : Nat) (s : List UInt8), s.length ≤ f → rep [34] [34, 34] f s = dbl s := by
  intro f
  induction f with
  | zero => intro s hs; obtain rfl : s = [] := List.length_eq_zero_iff.1 (by omega); rfl
  | succ f ih =>
    intro s hs
    cases s with
    | nil => rfl
    | cons b l =>
      simp only [List.length_cons] at hs
      rw [rep, dbl]
      by_cases hb : b = 34
      · subst hb; rw [if_pos (by simp), if_pos rfl]; simp [ih l (by omega)]
      · rw [if_neg (by simp [Ne.symm hb]), if_neg hb, ih l (by omega)]
theorem rep_und : ∀ (f : Nat) (s : List UInt8), s.length ≤ f → rep [34, 34] [34] f s = und s := by
  intro f
  induction f with
  | zero => intro s hs; obtain rfl : s = [] := List.length_eq_zero_iff.1 (by omega); rfl
  | succ f ih =>
    intro s hs
    rcases s with _ | ⟨a, _ | ⟨b, l⟩⟩
    · rfl
    · rw [rep, if_neg (by simp)]; cases f <;> rfl
    · simp only [List.length_cons] at hs
      rw [rep, und]
      by_cases hab : a = 34 ∧ b = 34
      · obtain ⟨rfl, rfl⟩ := hab; rw [if_pos (by simp), if_pos ⟨rfl, rfl⟩]; simp [ih l (by omega)]
      · rw [if_neg (by simp; intro h1 h2; exact hab ⟨h1.symm, h2.symm⟩), if_neg hab, ih (b :: l) (by simp; omega)]
theorem replaceAll_dbl (s : List UInt8) : Lib.replaceAll s [34] [34, 34] = dbl s := by
  rw [replaceAll_rep _ _ _ (by simp) rfl]; exact rep_dbl _ _ (Nat.le_refl _)
theorem replaceAll_und (s : List UInt8) : Lib.replaceAll s [34, 34] [34] = und s := by
  rw [replaceAll_rep _ _ _ (by simp) rfl]; exact rep_und _ _ (Nat.le_refl _)
theorem dbl_length (s : List UInt8) : (dbl s).length ≤ 2 * s.length := by
  induction s with
  | nil => simp [dbl]
  | cons b l ih => rw [dbl]; split <;> simp <;> omega
theorem und_length : ∀ (f : Nat) (s : List UInt8), s.length ≤ f → (und s).length ≤ s.length := by
  intro f
  induction f with
  | zero => intro s hs; obtain rfl : s = [] := List.length_eq_zero_iff.1 (by omega); simp [und]
  | succ f ih =>
    intro s hs
    rcases s with _ | ⟨a, _ | ⟨b, l⟩⟩
    · simp [und]
    · simp [und]
    · simp only [List.length_cons] at hs
      rw [und]
      split
      · have := ih l (by omega); simp; omega
      · have := ih (b :: l) (by simp; omega); simp at this ⊢; omega
/-- What was doubled is halved. -/
theorem und_dbl (s : List UInt8) : und (dbl s) = s := by
  induction s with
  | nil => rfl
  | cons b l ih =>
    rw [dbl]
    by_cases hb : b = 34
    · subst hb; rw [if_pos rfl, und, if_pos ⟨rfl, rfl⟩, ih]
    · rw [if_neg hb]
      cases hd : dbl l with
      | nil => rw [hd] at ih; simp [und] at ih ⊢; exact ih
      | cons c r => rw [und, if_neg (fun h => hb h.1), ← hd, ih]
end Go.Proofs.YtgldpdbdgjehkaaGreatDoor
