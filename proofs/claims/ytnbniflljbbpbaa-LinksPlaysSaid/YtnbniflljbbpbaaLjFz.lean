/- links: a free slot's value is zero: kept by every call. -/
import Derived.Test.YtnbniflljbbpbaaLrNew
namespace Go.Proofs.Ytnbniflljbbpbaa

def FZ (n m : Nat) (v : Nat → Int) (of : Nat → List Nat) : Prop := ∀ s, s < n → (∀ i, i < m → s ∉ of i) → v s = 0
theorem fill_fz {n m : Nat} {v : Nat → Int} {of : Nat → List Nat} (h : FZ n m v of) {i : Nat} (hi : i < m) {l r : List Nat} (hs : of i = l ++ r) (z : Int) : FZ n m (fillX n m v of z i l r).v (fillX n m v of z i l r).of := by
  unfold fillX
  rcases freeS_cases n m of with e | ⟨k, e, hk, hf⟩
  · rw [e, if_pos rfl]; exact h
  · rw [e, if_neg (ne_none k), toNat_cast]
    intro s hsn hfr
    have hfr : ∀ j, j < m → s ∉ setOf of i (l ++ k :: r) j := hfr
    have hne : s ≠ k := fun e2 => hfr i hi (by unfold setOf; rw [if_pos rfl, e2]; simp)
    show updF v k z s = 0
    rw [updF_other hne]
    refine h s hsn (fun j hj hm => hfr j hj ?_)
    unfold setOf
    by_cases ej : j = i
    · rw [if_pos ej]
      rw [ej, hs] at hm
      rcases List.mem_append.1 hm with h1 | h1
      · exact List.mem_append_left _ h1
      · exact List.mem_append_right _ (List.mem_cons_of_mem _ h1)
    · rw [if_neg ej]; exact hm
theorem push_fz {n m : Nat} {v : Nat → Int} {of : Nat → List Nat} (h : FZ n m v of) (l z : Int) (f : Bool) : FZ n m (pushX n m v of l z f).v (pushX n m v of l z f).of := by
  unfold pushX
  rcases listE_cases m l with ⟨e, _⟩ | ⟨e, k, rfl, hk⟩
  · rw [e, if_neg (by decide)]; exact h
  · rw [e, if_pos rfl, toNat_cast]
    cases f
    · exact fill_fz h hk (List.append_nil _).symm z
    · exact fill_fz h hk (l := []) rfl z
theorem after_fz {n m : Nat} {v : Nat → Int} {of : Nat → List Nat} (h : FZ n m v of) (x z : Int) : FZ n m (afterX n m v of x z).v (afterX n m v of x z).of := by
  unfold afterX
  rcases slotW_cases n m of x with e | ⟨e, k, i, rfl, hk, ew, hi, hs⟩
  · rw [e, if_neg (by decide)]; exact h
  · rw [e, if_pos rfl, toNat_cast]
    simp only
    rw [ew, toNat_cast]
    exact fill_fz h hi (l := bef k (of i) ++ [k]) (r := beh k (of i)) (by rw [List.append_assoc]; exact hs) z
theorem cut_mem {of : Nat → List Nat} {i k s j : Nat} {l r : List Nat} (hs : of i = l ++ k :: r) (hne : s ≠ k) : s ∈ of j ↔ s ∈ setOf of i (l ++ r) j := by
  unfold setOf
  by_cases ej : j = i
  · rw [if_pos ej, ej, hs]
    simp [hne]
  · rw [if_neg ej]
theorem take_fz {n m : Nat} {v : Nat → Int} {of : Nat → List Nat} (h : FZ n m v of) (x : Int) : FZ n m (takeX n m v of x).v (takeX n m v of x).of := by
  unfold takeX
  rcases slotW_cases n m of x with e | ⟨e, k, i, rfl, hk, ew, hi, hs⟩
  · rw [e, if_neg (by decide)]; exact h
  · rw [e, if_pos rfl, toNat_cast]
    simp only
    rw [ew, toNat_cast]
    intro s hsn hfr
    by_cases hne : s = k
    · subst hne; exact updF_same _ _ _
    · rw [updF_other hne]
      exact h s hsn (fun j hj hm => hfr j hj ((cut_mem hs hne).1 hm))
theorem move_fz {n m : Nat} {v : Nat → Int} {of : Nat → List Nat} (h : FZ n m v of) (x l : Int) (f : Bool) : FZ n m (moveX n m v of x l f).v (moveX n m v of x l f).of := by
  unfold moveX
  rcases slotW_cases n m of x with e | ⟨e, k, i, rfl, hk, ew, hi, hs⟩
  · rw [e, if_neg (by decide)]; exact h
  · rw [e, if_pos rfl, toNat_cast]
    simp only
    rw [ew, toNat_cast]
    rcases listE_cases m l with ⟨e, _⟩ | ⟨e, t, rfl, ht⟩
    · rw [e, if_neg (by decide)]; exact h
    · rw [e, if_pos rfl, toNat_cast]
      intro s hsn hfr
      have hfr : ∀ j, j < m → s ∉ movedOf (setOf of i (bef k (of i) ++ beh k (of i))) k t f j := hfr
      have hne : s ≠ k := fun e2 => hfr t ht (by unfold movedOf; show s ∈ setOf _ t _ t; unfold setOf; rw [if_pos rfl, e2]; cases f <;> simp)
      refine h s hsn (fun j hj hm => hfr j hj ?_)
      have hm2 := (cut_mem hs hne).1 hm
      unfold movedOf
      generalize setOf of i (bef k (of i) ++ beh k (of i)) = of2 at hm2
      unfold setOf
      by_cases ej : j = t
      · rw [if_pos ej]; subst ej; cases f <;> simp [hm2]
      · rw [if_neg ej]; exact hm2
theorem put_fz {n m : Nat} {v : Nat → Int} {of : Nat → List Nat} (h : FZ n m v of) (x z : Int) : FZ n m (putX n m v of x z).v (putX n m v of x z).of := by
  unfold putX
  rcases slotW_cases n m of x with e | ⟨e, k, i, rfl, hk, ew, hi, hs⟩
  · rw [e, if_neg (by decide)]; exact h
  · rw [e, if_pos rfl, toNat_cast]
    intro s hsn hfr
    have hfr : ∀ j, j < m → s ∉ of j := hfr
    have hne : s ≠ k := fun e2 => hfr i hi (by rw [hs, e2]; simp)
    show updF v k z s = 0
    rw [updF_other hne]
    exact h s hsn hfr
end Go.Proofs.Ytnbniflljbbpbaa
