/- Hexadecimal digits: plain facts. -/
import Derived.Test.YtboigkmaccdkpaaGreatDoorQuotes
namespace Go.Proofs.YtboigkmaccdkpaaGreatDoor
open Go.RowKit

def hexTab : List UInt8 := [48, 49, 50, 51, 52, 53, 54, 55, 56, 57, 97, 98, 99, 100, 101, 102]
/-- The digit of a number from 0 to 15. -/
def hexD (n : Nat) : UInt8 := hexTab.getD n 0
/-- The place of a digit among the first n of the table; nothing if it is none of them. -/
def hexV (c : UInt8) : Option Nat := hexTab.findIdx? (· == c)
theorem hexV_hexD : ∀ n : Nat, n < 16 → hexV (hexD n) = some n := by decide
theorem hexV_lt {c : UInt8} {n : Nat} (h : hexV c = some n) : n < 16 ∧ hexD n = c := by
  unfold hexV at h
  rw [List.findIdx?_eq_some_iff_getElem] at h
  obtain ⟨h1, h2, _⟩ := h
  have h16 : hexTab.length = 16 := rfl
  refine ⟨by omega, ?_⟩
  unfold hexD
  rw [List.getD_eq_getElem?_getD, List.getElem?_eq_getElem h1]
  simpa using h2
theorem hexV_inj {n : Nat} (hn : n < 16) {c : UInt8} : hexD n = c ↔ hexV c = some n := by
  constructor
  · rintro rfl; exact hexV_hexD n hn
  · intro h; exact (hexV_lt h).2
/-- The hexadecimal form. -/
def hexL (l : List UInt8) : List UInt8 := l.flatMap fun b => [hexD (b.toNat / 16), hexD (b.toNat % 16)]
theorem hexL_snoc (l : List UInt8) (b : UInt8) : hexL (l ++ [b]) = hexL l ++ [hexD (b.toNat / 16), hexD (b.toNat % 16)] := by simp [hexL]
theorem hexL_length (l : List UInt8) : (hexL l).length = 2 * l.length := by
  induction l with
  | nil => rfl
  | cons b r ih => simp only [hexL, List.flatMap_cons, List.length_append, List.length_cons, List.length_nil] at ih ⊢; omega
def hexR (l : List UInt8) : List UInt8 × Int := if 100 < l.length then ([], 3) else (hexL l, 0)
/-- The byte of two digits. -/
def pairV (a b : UInt8) : Option UInt8 := match hexV a, hexV b with
  | some x, some y => some (UInt8.ofNat (16 * x + y))
  | _, _ => none
def unhex : List UInt8 → Option (List UInt8)
  | [] => some []
  | [_] => none
  | a :: b :: r => match pairV a b with
    | none => none
    | some c => (unhex r).map (c :: ·)
def unhexR (s : List UInt8) : List UInt8 × Int :=
  if 200 < s.length then ([], 3) else if s.length % 2 ≠ 0 then ([], 6) else match unhex s with
  | none => ([], 6)
  | some l => (l, 0)
theorem pairV_hex (b : UInt8) : pairV (hexD (b.toNat / 16)) (hexD (b.toNat % 16)) = some b := by
  have h := b.toNat_lt
  unfold pairV
  rw [hexV_hexD _ (by omega), hexV_hexD _ (by omega)]
  simp only
  rw [show 16 * (b.toNat / 16) + b.toNat % 16 = b.toNat by omega, UInt8.ofNat_toNat]
theorem pairV_some {a b c : UInt8} (h : pairV a b = some c) : a = hexD (c.toNat / 16) ∧ b = hexD (c.toNat % 16) := by
  unfold pairV at h
  cases hx : hexV a with
  | none => rw [hx] at h; cases h
  | some x =>
    cases hy : hexV b with
    | none => rw [hx, hy] at h; cases h
    | some y =>
      rw [hx, hy] at h
      cases h
      obtain ⟨x1, x2⟩ := hexV_lt hx
      obtain ⟨y1, y2⟩ := hexV_lt hy
      have e : (UInt8.ofNat (16 * x + y)).toNat = 16 * x + y := by rw [UInt8.toNat_ofNat']; omega
      rw [e, show (16 * x + y) / 16 = x by omega, show (16 * x + y) % 16 = y by omega]
      exact ⟨x2.symm, y2.symm⟩
theorem unhex_hexL (l : List UInt8) : unhex (hexL l) = some l := by
  induction l with
  | nil => rfl
  | cons b r ih =>
    have e : hexL (b :: r) = hexD (b.toNat / 16) :: hexD (b.toNat % 16) :: hexL r := rfl
    rw [e, unhex, pairV_hex, ih]; rfl
theorem hexL_unhex : ∀ (n : Nat) (s l : List UInt8), s.length ≤ n → unhex s = some l → hexL l = s := by
  intro n
  induction n with
  | zero => intro s l h hu; obtain rfl := List.length_eq_zero_iff.1 (Nat.le_zero.1 h); cases hu; rfl
  | succ n ih =>
    intro s l h hu
    match s, h, hu with
    | [], _, hu => cases hu; rfl
    | [_], _, hu => cases hu
    | a :: b :: r, h, hu =>
      rw [unhex] at hu
      cases hp : pairV a b with
      | none => rw [hp] at hu; cases hu
      | some c =>
        rw [hp] at hu
        obtain ⟨l', h1, rfl⟩ := Option.map_eq_some_iff.1 hu
        obtain ⟨e1, e2⟩ := pairV_some hp
        simp only [List.length_cons] at h
        have := ih r l' (by omega) h1
        show hexD (c.toNat / 16) :: hexD (c.toNat % 16) :: hexL l' = _
        rw [this, ← e1, ← e2]
theorem unhex_hex {l : List UInt8} (h : (hexR l).2 = 0) : unhexR (hexR l).1 = (l, 0) := by
  unfold hexR at h ⊢
  split at h
  · cases h
  · rename_i h1
    rw [if_neg h1]
    unfold unhexR
    have := hexL_length l
    simp only
    rw [if_neg (by omega), if_neg (by omega), unhex_hexL]
theorem hex_unhex {s : List UInt8} (h : (unhexR s).2 = 0) : hexR (unhexR s).1 = (s, 0) := by
  unfold unhexR at h ⊢
  by_cases h1 : 200 < s.length
  · rw [if_pos h1] at h; cases h
  · rw [if_neg h1] at h ⊢
    by_cases h2 : s.length % 2 ≠ 0
    · rw [if_pos h2] at h; cases h
    · rw [if_neg h2] at h ⊢
      cases hu : unhex s with
      | none => rw [hu] at h; cases h
      | some l =>
        have e := hexL_unhex _ s l (Nat.le_refl _) hu
        have := hexL_length l
        simp only
        unfold hexR
        rw [e] at this
        rw [if_neg (by omega), e]
end Go.Proofs.YtboigkmaccdkpaaGreatDoor
