/- Plain facts for the reference's Of, and for lists of truth values that are changed in place. -/
import Derived.Test.YtocgdibadcmnfaaDoorBrFind2
namespace Go.Proofs.YtocgdibadcmnfaaDoor
open Go.RowKit Go.Shelf

/-- What the list holds when the first k are done. -/
def partF (f g : Nat → Bool) (k : Nat) : Nat → Bool := fun i => if i < k then g i else f i
theorem partF_zero (f g : Nat → Bool) : partF f g 0 = f := by funext i; simp [partF]
theorem boolC_congr {f g : Nat → Bool} {m : Nat} (h : ∀ i, i < m → f i = g i) : boolC f m = boolC g m := by
  unfold boolC
  exact List.map_congr_left fun i hi => by rw [h i (List.mem_range.1 hi)]
theorem partF_all (f g : Nat → Bool) (m : Nat) : boolC (partF f g m) m = boolC g m := boolC_congr fun i hi => by simp [partF, hi]
theorem boolC_set {f g : Nat → Bool} {m k : Nat} {b : Bool} (hk : g k = b) (h : ∀ i, i < m → i ≠ k → g i = f i) : (boolC f m).set k (.bool b) = boolC g m := by
  apply List.ext_getElem (by simp [boolC])
  intro i h1 h2
  have hi : i < m := by simpa [boolC] using h2
  rw [List.getElem_set]
  by_cases e : k = i
  · subst e; simp [boolC, hk]
  · simp [boolC, e, h i hi (fun e' => e e'.symm)]
theorem partF_set (f g : Nat → Bool) (m k : Nat) (b : Bool) (hb : g k = b) : (boolC (partF f g k) m).set k (.bool b) = boolC (partF f g (k + 1)) m :=
  boolC_set (by simp [partF, hb]) fun i _ hne => by
    unfold partF
    by_cases h : i < k
    · rw [if_pos h, if_pos (by omega)]
    · rw [if_neg h, if_neg (by omega)]
theorem bitN_set (ws : List Nat) (q y : Nat) (hq : q < ws.length) (i : Nat) : bitN (ws.set q y) i = if i / 64 = q then y.testBit (i % 64) else bitN ws i := by
  unfold bitN
  by_cases h : i / 64 = q
  · rw [if_pos h, ← h, List.getElem?_set_self (by omega)]; rfl
  · rw [if_neg h, List.getElem?_set_ne (fun e => h e.symm)]
/-- The first k bits. -/
def upto (f : Nat → Bool) (k : Nat) : Nat → Bool := fun i => decide (i < k) && f i
theorem pack_upto (m : Nat) (f : Nat → Bool) : packR m (upto f m) = packR m f := pack_congr fun i hi => by simp [upto, hi]
theorem pack_skip (m k : Nat) (f : Nat → Bool) (hf : f k = false) : packR m (upto f (k + 1)) = packR m (upto f k) := pack_congr fun i _ => by
  unfold upto
  by_cases e : i = k
  · subst e; simp [hf]
  · have : decide (i < k + 1) = decide (i < k) := decide_eq_decide.2 (by omega)
    rw [this]
theorem pack_step {m k : Nat} (hm : m ≤ 4096) (hk : k < m) (f : Nat → Bool) (hf : f k = true) :
    (packR m (upto f k)).set (k / 64) (((packR m (upto f k))[k / 64]?.getD 0) ||| 2 ^ (k % 64)) = packR m (upto f (k + 1)) := by
  have hv := pack_valid hm (upto f k)
  have hq : k / 64 < (packR m (upto f k)).length := by rw [pack_len]; unfold lenW; omega
  have hbit : ∀ i, bitN ((packR m (upto f k)).set (k / 64) (((packR m (upto f k))[k / 64]?.getD 0) ||| 2 ^ (k % 64))) i = (decide (i < m) && upto f (k + 1) i) := by
    intro i
    rw [bitN_set _ _ _ hq]
    by_cases h : i / 64 = k / 64
    · rw [if_pos h, Nat.testBit_or, ← h]
      have e : ((packR m (upto f k))[i / 64]?.getD 0).testBit (i % 64) = bitN (packR m (upto f k)) i := rfl
      rw [e, pack_bit, Nat.testBit_two_pow]
      unfold upto
      by_cases e : i = k
      · subst e; simp [hf, hk]
      · have h1 : decide (k % 64 = i % 64) = false := by simp; omega
        have h2 : decide (i < k + 1) = decide (i < k) := decide_eq_decide.2 (by omega)
        rw [h1, h2, Bool.or_false]
    · rw [if_neg h, pack_bit]
      unfold upto
      have h2 : decide (i < k + 1) = decide (i < k) := decide_eq_decide.2 (by omega)
      rw [h2]
  refine valid_pack ⟨hm, by rw [List.length_set]; exact hv.len, ?_, fun i hi => ?_⟩ fun i hi => ?_
  · intro x hx
    rcases List.mem_or_eq_of_mem_set hx with h | h
    · exact hv.lt x h
    · subst h
      refine Nat.or_lt_two_pow ?_ (Nat.pow_lt_pow_right (by decide) (by omega))
      rw [List.getElem?_eq_getElem hq]
      exact hv.lt _ (List.getElem_mem hq)
  · rw [hbit]; simp; omega
  · rw [hbit]; simp [hi]
theorem pack_none (m : Nat) (f : Nat → Bool) : packR m (upto f 0) = List.replicate (lenW m) 0 := by
  apply List.ext_getElem (by simp [pack_len])
  intro i h1 h2
  have hz : ∀ (g : Nat → Bool), (∀ j, g j = false) → ∀ k, wordK g k = 0 := by
    intro g hg k
    induction k with
    | zero => rfl
    | succ k ih => rw [wordK, ih, hg]; rfl
  rw [List.getElem_replicate]
  have e : (packR m (upto f 0))[i]? = some 0 := by
    have hi : i < lenW m := by rwa [pack_len] at h1
    unfold packR
    rw [List.getElem?_map, List.getElem?_range hi]
    exact congrArg some (hz _ (fun j => by simp [upto]) 64)
  rw [List.getElem?_eq_getElem h1] at e
  exact Option.some.inj e
/-- The address of a list that lies in memory of a call's own. -/
theorem own_boolsN {w : World} {base m : Nat} {v : Value} {f : Nat → Bool} (h : w.ownsRow base 4 1 v m (boolC f m)) : ∃ p cap, v = .slice p m cap ∧ BoolsAt w p f m ∧ NewAt base p := by
  rcases h.2 with ⟨rfl, h0⟩ | ⟨g, cap, cur, rfl, hb, hg, _⟩
  · exact ⟨none, 0, by rw [h0], (fun h => by omega), fun g off e => by cases e⟩
  · refine ⟨some ⟨g, 0, none⟩, cap, rfl, fun _ => ⟨g, rfl, (Array.getElem?_eq_some_iff.1 hg).1, fun j hj => ?_⟩, fun g' off e => by cases e; exact hb⟩
    have hc := h.cells (g := g) rfl j (.bool (f j)) (by simp [boolC, hj])
    rwa [WideShapes.add_plain, Nat.zero_add] at hc
/-- Truth values in another block than the one that is stored to. -/
theorem BoolsAt.set_other {W : World} {p : Option Addr} {f : Nat → Bool} {m B j : Nat} {u : Value} (h : BoolsAt W p f m) (hne : ∀ g off, p = some ⟨g, off, none⟩ → g ≠ B) : BoolsAt (W.setCell ⟨B, j, none⟩ u) p f m := fun h0 => by
  obtain ⟨g, e, hg, hc⟩ := h h0
  have hg' := hne g 0 e
  refine ⟨g, e, by simpa [World.setCell] using hg, fun i hi => ?_⟩
  rw [← hc i hi]
  unfold World.cell?
  rw [Below.heap_setCell _ _ _ _ (by simpa using hg')]
theorem own_setLow {W : World} {base : Nat} {e : TypeId} {size : Nat} {v : Value} {n : Nat} {xs : List Value} {B j : Nat} {u : Value} (h : W.ownsRow base e size v n xs) (hB : B < base) : (W.setCell ⟨B, j, none⟩ u).ownsRow base e size v n xs := by
  obtain ⟨h1, h2⟩ := h
  refine ⟨h1, ?_⟩
  rcases h2 with h2 | ⟨g, cap, cur, hv, hg, hh, r⟩
  · exact .inl h2
  · refine .inr ⟨g, cap, cur, hv, hg, ?_, r⟩
    rw [Below.heap_setCell _ _ _ _ (by simp; omega)]; exact hh
/-- Words that lie in memory of a call's own. -/
theorem own_words {w : World} {base n : Nat} {v : Value} {ws : List Nat} (h : w.ownsRow base 58 1 v n (ws.map wordC)) (hn : ws.length = n) (hlm : n ≤ maxLen) (hlt : ∀ x ∈ ws, x < 2 ^ 64) : ∃ p cap, v = .slice p n cap ∧ WordsAt w p ws ∧ NewAt base p := by
  subst hn
  rcases h.2 with ⟨rfl, h0⟩ | ⟨g, cap, cur, rfl, hb, hg, _⟩
  · refine ⟨none, 0, by rw [h0], ?_, fun g off e => by cases e⟩
    have : ws = [] := List.length_eq_zero_iff.1 h0
    subst this
    exact WordsAt.none_ _ _
  · refine ⟨some ⟨g, 0, none⟩, cap, rfl, ⟨hlm, hlt, fun _ => ⟨g, 0, rfl, (Array.getElem?_eq_some_iff.1 hg).1, fun j hj => ?_⟩⟩, fun g' off e => by cases e; exact hb⟩
    have hc := h.cells (g := g) rfl j (wordC ws[j]) (by simp [hj])
    rwa [WideShapes.add_plain] at hc
end Go.Proofs.YtocgdibadcmnfaaDoor
