/- bits: runs of set and of clear bits, in turn: plain facts. -/
import Derived.Test.YtocgdibadcmnfaaDoorBtRunMath
namespace Go.Proofs.YtocgdibadcmnfaaDoor
open Go

/-- What is known where i runs of 'on' and k of the others end at 'at' or before. -/
structure TurnI (f : Nat → Bool) (on : Bool) (m : Nat) (L M : List (Nat × Nat)) (at_ i k : Nat) : Prop where
  le : at_ ≤ m
  li : i ≤ L.length
  lk : k ≤ M.length
  lo : ∀ j (h : j < L.length), j < i → (L[j]'h).2 ≤ at_
  hi : ∀ j (h : j < L.length), i ≤ j → at_ ≤ (L[j]'h).1
  mo : ∀ j (h : j < M.length), j < k → (M[j]'h).2 ≤ at_
  mi : ∀ j (h : j < M.length), k ≤ j → at_ ≤ (M[j]'h).1
  last : 0 < at_ → f (at_ - 1) = on → ∃ h : i - 1 < L.length, 0 < i ∧ (L[i - 1]'h).2 = at_
  mast : 0 < at_ → f (at_ - 1) = (!on) → ∃ h : k - 1 < M.length, 0 < k ∧ (M[k - 1]'h).2 = at_
  turn : 0 < at_ → at_ < m → f at_ = !f (at_ - 1)
theorem TurnI.swap {f : Nat → Bool} {on : Bool} {m : Nat} {L M : List (Nat × Nat)} {at_ i k : Nat} (h : TurnI f on m L M at_ i k) : TurnI f (!on) m M L at_ k i :=
  ⟨h.le, h.lk, h.li, h.mo, h.mi, h.lo, h.hi, h.mast, by rw [Bool.not_not]; exact h.last, h.turn⟩
theorem turn_start (f : Nat → Bool) (on : Bool) (m : Nat) (L M : List (Nat × Nat)) : TurnI f on m L M 0 0 0 :=
  ⟨Nat.zero_le _, Nat.zero_le _, Nat.zero_le _, fun _ _ h => by omega, fun _ _ _ => Nat.zero_le _, fun _ _ h => by omega, fun _ _ _ => Nat.zero_le _, fun h => by omega, fun h => by omega, fun h => by omega⟩
theorem turn_end {f : Nat → Bool} {on : Bool} {m : Nat} {i k : Nat} (h : TurnI f on m (runsL f on m 0) (runsL f (!on) m 0) m i k) : i = (runsL f on m 0).length ∧ k = (runsL f (!on) m 0).length := by
  have h1 := (runsL_spec f on (Nat.zero_le m)).1
  have h2 := (runsL_spec f (!on) (Nat.zero_le m)).1
  refine ⟨?_, ?_⟩
  · apply Classical.byContradiction
    intro hne
    have hl : i < (runsL f on m 0).length := by have := h.li; omega
    have a := h.hi i hl (Nat.le_refl _)
    have b := h1 _ (List.getElem_mem hl)
    have := b.lt; have := b.hi; omega
  · apply Classical.byContradiction
    intro hne
    have hl : k < (runsL f (!on) m 0).length := by have := h.lk; omega
    have a := h.mi k hl (Nat.le_refl _)
    have b := h2 _ (List.getElem_mem hl)
    have := b.lt; have := b.hi; omega
/-- One step: the next run is one of 'on'. -/
theorem turn_step {f : Nat → Bool} {on : Bool} {m : Nat} {at_ i k : Nat} (h : TurnI f on m (runsL f on m 0) (runsL f (!on) m 0) at_ i k) (hm : at_ < m) (hf : f at_ = on) :
    ∃ (hi : i < (runsL f on m 0).length), ((runsL f on m 0)[i]'hi).1 = at_ ∧ at_ < ((runsL f on m 0)[i]'hi).2 ∧ ((runsL f on m 0)[i]'hi).2 ≤ m ∧ (∀ j, at_ ≤ j → j < ((runsL f on m 0)[i]'hi).2 → f j = on) ∧
      (k = 0 → at_ = 0) ∧ (0 < k → ∃ hk : k - 1 < (runsL f (!on) m 0).length, ((runsL f (!on) m 0)[k - 1]'hk).2 = at_) ∧
      (∀ hk : k < (runsL f (!on) m 0).length, ((runsL f (!on) m 0)[k]'hk).1 ≠ at_) ∧
      TurnI f on m (runsL f on m 0) (runsL f (!on) m 0) ((runsL f on m 0)[i]'hi).2 (i + 1) k := by
  obtain ⟨s1, s2, s3⟩ := runsL_spec f on (Nat.zero_le m)
  obtain ⟨t1, t2, t3⟩ := runsL_spec f (!on) (Nat.zero_le m)
  generalize runsL f on m 0 = L at h s1 s2 s3 ⊢
  generalize runsL f (!on) m 0 = M at h t1 t2 t3 ⊢
  rw [List.pairwise_iff_getElem] at s3
  obtain ⟨r, hr, h1, h2⟩ := s2 at_ (Nat.zero_le _) hm hf
  obtain ⟨j, hj, rfl⟩ := List.getElem_of_mem hr
  have hij : i ≤ j := by
    apply Classical.byContradiction
    intro hn
    have := h.lo j hj (by omega); omega
  have hji : j = i := by
    apply Classical.byContradiction
    intro hn
    have hlt : i < j := by omega
    have a := s3 i j (by omega) hj hlt
    have b := h.hi i (by omega) (Nat.le_refl _)
    have c := (s1 _ (List.getElem_mem (show i < L.length by omega))).lt
    omega
  subst hji
  have hb := h.hi j hj (Nat.le_refl _)
  have g := s1 _ (List.getElem_mem hj)
  have e1 : (L[j]'hj).1 = at_ := by omega
  have hall : ∀ z, at_ ≤ z → z < (L[j]'hj).2 → f z = on := fun z z1 z2 => g.all z (by omega) z2
  have hnot : ∀ b : Bool, b = on → b ≠ !on := by intro b hb; subst hb; cases b <;> decide
  have hmk : ∀ hk : k < M.length, (M[k]'hk).1 ≠ at_ := by
    intro hk e
    have gk := t1 _ (List.getElem_mem hk)
    have := gk.all (M[k]'hk).1 (Nat.le_refl _) gk.lt
    rw [e, hf] at this
    exact hnot on rfl this
  refine ⟨hj, e1, h2, g.hi, hall, ?_, ?_, hmk, ?_⟩
  · intro hk0
    apply Classical.byContradiction
    intro hn
    have ht := h.turn (by omega) hm
    have hfa : f (at_ - 1) = !on := by rw [hf] at ht; cases hx : f (at_ - 1) <;> rw [hx] at ht <;> subst ht <;> rfl
    obtain ⟨_, h5, _⟩ := h.mast (by omega) hfa
    omega
  · intro hk
    have hkl : k - 1 < M.length := by have := h.lk; omega
    have ha := h.mo (k - 1) hkl (by omega)
    have gk := t1 _ (List.getElem_mem hkl)
    have h0 : 0 < at_ := by have := gk.lt; omega
    have ht := h.turn h0 hm
    have hfa : f (at_ - 1) = !on := by rw [hf] at ht; cases hx : f (at_ - 1) <;> rw [hx] at ht <;> subst ht <;> rfl
    obtain ⟨h5, _, h6⟩ := h.mast h0 hfa
    exact ⟨h5, h6⟩
  · have hend : f ((L[j]'hj).2 - 1) = on := hall _ (by omega) (by omega)
    refine ⟨g.hi, by omega, h.lk, ?_, ?_, ?_, ?_, ?_, ?_, ?_⟩
    · intro z hz hlt
      by_cases e : z = j
      · subst e; exact Nat.le_refl _
      · have := h.lo z hz (by omega); omega
    · intro z hz hge
      have := s3 j z hj hz (by omega); omega
    · intro z hz hlt
      have := h.mo z hz hlt; omega
    · intro z hz hge
      have a := h.mi z hz hge
      have gz := t1 _ (List.getElem_mem hz)
      apply Classical.byContradiction
      intro hn
      have b := gz.all (M[z]'hz).1 (Nat.le_refl _) gz.lt
      have c := hall (M[z]'hz).1 a (by omega)
      rw [c] at b
      exact hnot on rfl b
    · intro _ _
      exact ⟨by simpa using hj, by omega, by simp⟩
    · intro _ hx
      rw [hend] at hx
      exact absurd hx (hnot on rfl)
    · intro _ hlt
      rw [hend]
      rcases g.end_ with he | he
      · omega
      · exact he
theorem cnt_run {f : Nat → Bool} {a b : Nat} (h : a ≤ b) (hf : ∀ j, a ≤ j → j < b → f j = true) : cnt f b = cnt f a + (b - a) := by
  obtain ⟨d, rfl⟩ : ∃ d, b = a + d := ⟨b - a, by omega⟩
  rw [cnt_add, Nat.add_sub_cancel_left]
  congr 1
  have := cnt_not (fun i => f (a + i)) d
  rw [cnt_zero (fun i hi => by rw [hf (a + i) (by omega) (by omega)]; rfl)] at this
  have h2 := cnt_le (fun i => f (a + i)) d
  omega
theorem cnt_clear {f : Nat → Bool} {a b : Nat} (h : a ≤ b) (hf : ∀ j, a ≤ j → j < b → f j = false) : cnt f b = cnt f a := by
  obtain ⟨d, rfl⟩ : ∃ d, b = a + d := ⟨b - a, by omega⟩
  rw [cnt_add, cnt_zero (fun i hi => hf (a + i) (by omega) (by omega))]; omega
theorem turn_t {f : Nat → Bool} {m : Nat} {L M : List (Nat × Nat)} {at_ i k : Nat} (hL : L = runsL f true m 0) (hM : M = runsL f false m 0) (h : TurnI f true m L M at_ i k) (hm : at_ < m) (hf : f at_ = true) :
    ∃ (T : Nat) (hi : i < L.length), (L[i]'hi).1 = at_ ∧ (L[i]'hi).2 = T ∧ at_ < T ∧ T ≤ m ∧ cnt f T = cnt f at_ + (T - at_) ∧
      (k = 0 → at_ = 0) ∧ (0 < k → ∃ hk : k - 1 < M.length, (M[k - 1]'hk).2 = at_) ∧ TurnI f true m L M T (i + 1) k := by
  subst hL hM
  obtain ⟨h1, h2, h3, h4, h5, h6, h7, _, h9⟩ := turn_step h hm hf
  exact ⟨_, h1, h2, rfl, h3, h4, cnt_run (by omega) h5, h6, h7, h9⟩
theorem turn_f {f : Nat → Bool} {m : Nat} {L M : List (Nat × Nat)} {at_ i k : Nat} (hL : L = runsL f true m 0) (hM : M = runsL f false m 0) (h : TurnI f true m L M at_ i k) (hm : at_ < m) (hf : f at_ = false) :
    ∃ (T : Nat) (hk : k < M.length), (M[k]'hk).1 = at_ ∧ (M[k]'hk).2 = T ∧ at_ < T ∧ T ≤ m ∧ cnt f T = cnt f at_ ∧
      (i = 0 → at_ = 0) ∧ (0 < i → ∃ hi : i - 1 < L.length, (L[i - 1]'hi).2 = at_) ∧ (∀ hi : i < L.length, (L[i]'hi).1 ≠ at_) ∧ TurnI f true m L M T i (k + 1) := by
  subst hL hM
  have h' : TurnI f false m (runsL f false m 0) (runsL f (!false) m 0) at_ k i := h.swap
  obtain ⟨h1, h2, h3, h4, h5, h6, h7, h8, h9⟩ := turn_step h' hm hf
  exact ⟨_, h1, h2, rfl, h3, h4, cnt_clear (by omega) h5, h6, h7, h8, h9.swap⟩
theorem turn_last {f : Nat → Bool} {m : Nat} {L M : List (Nat × Nat)} {i k : Nat} (hL : L = runsL f true m 0) (hM : M = runsL f false m 0) (h : TurnI f true m L M m i k) : i = L.length ∧ k = M.length := by
  subst hL hM
  exact turn_end h
end Go.Proofs.YtocgdibadcmnfaaDoor
