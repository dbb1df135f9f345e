/- links: the reference's lists: plain mathematics. -/
import Derived.Test.YtmelcohfjonjfaaLkAsk
namespace Go.Proofs.Ytmelcohfjonjfaa

/-- The place of x in a list, counted from k on; -1: it is in none. -/
def posL (x : Int) : List Nat → Nat → Int
  | [], _ => -1
  | a :: l, k => if (a : Int) = x then (k : Int) else posL x l (k + 1)
/-- What Find returns, from list i on, of so many lists. -/
def findR (of : Nat → List Nat) (x : Int) : Nat → Nat → Int × Int
  | _, 0 => (-1, -1)
  | i, r + 1 => if posL x (of i) 0 = -1 then findR of x (i + 1) r else ((i : Int), posL x (of i) 0)
theorem posL_in {k : Nat} : ∀ {l : List Nat} {j : Nat}, k ∈ l → posL (k : Int) l j = ((j + (bef k l).length : Nat) : Int)
  | [], _, h => by cases h
  | a :: l, j, h => by
    unfold posL bef
    by_cases e : a = k
    · rw [if_pos (by omega), if_pos e]; simp
    · rw [if_neg (by omega), if_neg e, posL_in (by rcases List.mem_cons.1 h with h | h; exact absurd h.symm e; exact h), List.length_cons]
      congr 1; omega
theorem posL_out {x : Int} : ∀ {l : List Nat} {j : Nat}, (∀ a ∈ l, (a : Int) ≠ x) → posL x l j = -1
  | [], _, _ => rfl
  | a :: l, j, h => by
    unfold posL
    rw [if_neg (h a (List.mem_cons_self ..)), posL_out (fun b hb => h b (List.mem_cons_of_mem _ hb))]
theorem findR_out {of : Nat → List Nat} {x : Int} : ∀ {r i : Nat}, (∀ j, i ≤ j → j < i + r → ∀ a ∈ of j, (a : Int) ≠ x) → findR of x i r = (-1, -1)
  | 0, _, _ => rfl
  | r + 1, i, h => by
    unfold findR
    rw [if_pos (posL_out (h i (Nat.le_refl _) (by omega))), findR_out (fun j h1 h2 => h j (by omega) (by omega))]
theorem findR_in {of : Nat → List Nat} {k t : Nat} (hk : k ∈ of t) : ∀ {r i : Nat}, i ≤ t → t < i + r → (∀ j, i ≤ j → j < t → k ∉ of j) → findR of (k : Int) i r = ((t : Int), (((bef k (of t)).length : Nat) : Int))
  | 0, i, h1, h2, _ => by omega
  | r + 1, i, h1, h2, h3 => by
    unfold findR
    by_cases e : i = t
    · subst e
      rw [posL_in hk, if_neg (by omega), Nat.zero_add]
    · rw [if_pos (posL_out (fun a ha e2 => h3 i (Nat.le_refl _) (by omega) (by rw [show k = a by omega]; exact ha))), findR_in hk (by omega) (by omega) (fun j h4 h5 => h3 j (by omega) h5)]
/-- What Find returns of a slot, and what checkSlot says of it. -/
theorem find_cases {n m : Nat} {of : Nat → List Nat} {F : LkF} (h : Rep n m of F) (x : Int) :
    (slotW n m of x = 4 ∧ findR of x 0 m = (-1, -1)) ∨
    (slotW n m of x = 0 ∧ ∃ k i : Nat, x = (k : Int) ∧ k < n ∧ whr m of k = (i : Int) ∧ i < m ∧ of i = bef k (of i) ++ k :: beh k (of i) ∧ findR of x 0 m = ((i : Int), (((bef k (of i)).length : Nat) : Int))) := by
  by_cases hx : ∃ k t : Nat, x = (k : Int) ∧ t < m ∧ k ∈ of t
  · obtain ⟨k, t, rfl, ht, hk⟩ := hx
    right
    have hkn : k < n := h.lt t ht k hk
    have hw : whr m of k = (t : Int) := (rep_list h hkn).symm.trans (h.used t ht k hk).1
    refine ⟨?_, k, t, rfl, hkn, hw, ht, cut_at hk, findR_in hk (Nat.zero_le _) (by omega) (fun j _ hj hk2 => h.disj j t (by omega) ht (by omega) k hk2 hk)⟩
    unfold slotW
    rw [toNat_cast, hw, if_neg (by omega)]
  · left
    have hno : ∀ j, j < m → ∀ a ∈ of j, (a : Int) ≠ x := fun j hj a ha e => hx ⟨a, j, e.symm, hj, ha⟩
    refine ⟨?_, findR_out (fun j _ hj => hno j (by omega))⟩
    rcases slotW_cases n m of x with e | ⟨_, k, i, rfl, hk, hw, hi, hs⟩
    · exact e
    · exact absurd rfl (hno i hi k (by rw [hs]; simp))
theorem find_free {n m : Nat} {of : Nat → List Nat} {F : LkF} (h : Rep n m of F) {k : Nat} (hk : k < n) : (findR of (k : Int) 0 m).1 = whr m of k := by
  rcases find_cases h (k : Int) with ⟨e, e2⟩ | ⟨_, k', i, e1, _, hw, _, _, e2⟩
  · rw [e2]
    unfold slotW at e
    rw [toNat_cast] at e
    by_cases hc : whr m of k = -1
    · exact hc.symm
    · rw [if_neg (by omega)] at e; omega
  · obtain rfl : k = k' := by omega
    rw [e2, hw]
theorem take_bef {k : Nat} {l : List Nat} (h : l = bef k l ++ k :: beh k l) : l.take (bef k l).length = bef k l ∧ l.drop (bef k l).length = k :: beh k l ∧ l.drop ((bef k l).length + 1) = beh k l ∧ l.take ((bef k l).length + 1) = bef k l ++ [k] := by
  generalize bef k l = a at h
  generalize beh k l = b at h
  subst h
  refine ⟨by simp, by simp, ?_, ?_⟩
  · rw [← List.drop_drop]; simp
  · rw [List.take_append, List.take_of_length_le (by omega)]; simp
end Go.Proofs.Ytmelcohfjonjfaa
