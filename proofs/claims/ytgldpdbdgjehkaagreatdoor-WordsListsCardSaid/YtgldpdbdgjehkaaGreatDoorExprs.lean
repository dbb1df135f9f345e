/- Items, and the runs that they stand for. -/
import Derived.Test.YtgldpdbdgjehkaaGreatDoorOrder
import Derived.Test.YtgldpdbdgjehkaaGreatDoorRReadMath
import Derived.Test.YtgldpdbdgjehkaaGreatDoorNMath
namespace Go.Proofs.YtgldpdbdgjehkaaGreatDoor
open Go

theorem natB_seps {a : List UInt8} (h : natB a = true) : (45 : UInt8) ∉ a ∧ (120 : UInt8) ∉ a ∧ (44 : UInt8) ∉ a :=
  ⟨fun e => absurd (natB_mem h 45 e).1 (by decide), fun e => absurd (natB_mem h 120 e).2 (by decide), fun e => absurd (natB_mem h 44 e).1 (by decide)⟩
theorem natB_itoa {n : Int} (h : 0 ≤ n) : natB (Lib.itoa n) = true ∧ ((dval 0 (Lib.itoa n) : Nat) : Int) = n := by
  obtain ⟨u, rfl⟩ := Int.eq_ofNat_of_zero_le h
  rw [show Lib.itoa ((u : Nat) : Int) = Lib.decDigits u from Lib.itoa_nonneg u]
  exact ⟨natB_decDigits u, by rw [dval_dec]⟩
theorem itoa_natB {a : List UInt8} (h : natB a = true) : Lib.itoa ((dval 0 a : Nat) : Int) = a := by
  rw [show Lib.itoa ((dval 0 a : Nat) : Int) = Lib.decDigits (dval 0 a) from Lib.itoa_nonneg _]
  exact dec_dval _ a rfl h
theorem val_before {a b : List UInt8} (ha : natB a = true) (hb : natB b = true) (h : dval 0 a < dval 0 b) : beforeB a b = true := by
  cases hx : beforeB a b with
  | true => rfl
  | false =>
    have hle : le b a := hx
    rw [le_iff] at hle
    rcases hle with h1 | ⟨h1, rfl | h2⟩
    · have := before_val hb ha ((beforeB_iff b a).2 (.inl h1)); omega
    · omega
    · have := before_val hb ha ((beforeB_iff b a).2 (.inr ⟨h1, h2⟩)); omega
theorem cap_of {a : List UInt8} (h : natB a = true) (hv : cap1 a ≤ 9999) : cap1 a = (dval 0 a : Nat) ∧ dval 0 a ≤ 9999 := by
  rw [cap1_nat h] at hv ⊢
  split at hv
  · rename_i h1; rw [if_pos h1]; exact ⟨rfl, h1⟩
  · omega
theorem cap_itoa {n : Int} (h0 : 0 ≤ n) (h1 : n ≤ 9999) : cap1 (Lib.itoa n) = n := by
  obtain ⟨e1, e2⟩ := natB_itoa h0
  rw [cap1_nat e1, if_pos (by omega), e2]
/-- The text of an item, and the run that it stands for. -/
def Shape (t : List UInt8) (r : Run) : Prop :=
  (∃ n : Int, 0 ≤ n ∧ n ≤ 9999 ∧ t = Lib.itoa n ∧ r = ⟨n, n, 1⟩) ∨
  (∃ n m : Int, 0 ≤ n ∧ n < m ∧ m ≤ 9999 ∧ t = Lib.itoa n ++ [45] ++ Lib.itoa m ∧ r = ⟨n, m, 1⟩) ∨
  (∃ k n : Int, 2 ≤ k ∧ k ≤ 9999 ∧ 0 ≤ n ∧ n ≤ 9999 ∧ t = Lib.itoa k ++ [120] ++ Lib.itoa n ∧ r = ⟨n, n, k⟩)
theorem shape_item {t : List UInt8} {r : Run} (h : Shape t r) : itemR t = (r, true) ∧ (44 : UInt8) ∉ t ∧ t ≠ [] ∧ r.last ≤ 9999 := by
  rcases h with ⟨n, h0, h1, rfl, rfl⟩ | ⟨n, m, h0, h1, h2, rfl, rfl⟩ | ⟨k, n, h0, h1, h2, h3, rfl, rfl⟩
  · have hn := (natB_itoa h0).1
    obtain ⟨a1, a2, a3⟩ := natB_seps hn
    refine ⟨?_, a3, itoa_ne n, h1⟩
    unfold itemR
    rw [cut_out 45 _ a1, cut_out 120 _ a2]
    simp [hn, cap_itoa h0 h1]
  · have hn := (natB_itoa h0).1
    have hm := (natB_itoa (show 0 ≤ m by omega)).1
    obtain ⟨a1, a2, a3⟩ := natB_seps hn
    obtain ⟨b1, b2, b3⟩ := natB_seps hm
    have hb : beforeB (Lib.itoa n) (Lib.itoa m) = true := val_before hn hm (by have := (natB_itoa h0).2; have := (natB_itoa (show 0 ≤ m by omega)).2; omega)
    refine ⟨?_, ?_, by simp, h2⟩
    · unfold itemR
      rw [List.append_assoc, List.singleton_append, cut_in 45 _ _ a1]
      simp [hn, hm, hb, cap_itoa h0 (show n ≤ 9999 by omega), cap_itoa (show 0 ≤ m by omega) h2]
    · simp [a3, b3]
  · have hk := (natB_itoa (show 0 ≤ k by omega)).1
    have hn := (natB_itoa h2).1
    obtain ⟨a1, a2, a3⟩ := natB_seps hk
    obtain ⟨b1, b2, b3⟩ := natB_seps hn
    have hb : beforeB [49] (Lib.itoa k) = true := val_before (by decide) hk (by have := (natB_itoa (show 0 ≤ k by omega)).2; have : dval 0 [49] = 1 := (by decide); omega)
    refine ⟨?_, ?_, by simp, h3⟩
    · unfold itemR
      rw [cut_out 45 _ (by simp [a1, b1]), List.append_assoc, List.singleton_append, cut_in 120 _ _ a2]
      simp [hk, hn, hb, cap_itoa h2 h3, cap_itoa (show 0 ≤ k by omega) h1]
    · simp [a3, b3]
theorem item_shape {t : List UInt8} (h : (itemR t).2 = true) (hl : (itemR t).1.last ≤ 9999) (ht : (itemR t).1.times ≤ 9999) : Shape t (itemR t).1 := by
  obtain ⟨e1, e2⟩ := readI_item t
  rw [e1] at h
  have e2 := e2 h
  rw [e2] at hl ht ⊢
  unfold readI at h hl ht ⊢
  cases hc : cutI t with
  | none =>
    rw [hc] at h hl ht
    simp only at h hl ht ⊢
    obtain ⟨c1, c2⟩ := cap_of h hl
    left
    refine ⟨(dval 0 t : Nat), by omega, by omega, (itoa_natB h).symm, ?_⟩
    rw [c1, cap1_one]
  | some x =>
    obtain ⟨a, c, b⟩ := x
    obtain ⟨hab, hcc, _⟩ := cutI_some t a b c hc
    rw [hc] at h hl ht
    simp only at h hl ht ⊢
    by_cases h45 : c = 45
    · rw [if_pos h45] at h hl ht ⊢
      simp only [Bool.and_eq_true] at h
      obtain ⟨⟨ha, hb⟩, hbe⟩ := h
      have hv := before_val ha hb hbe
      obtain ⟨c1, c2⟩ := cap_of hb hl
      have hca : cap1 a = (dval 0 a : Nat) := by rw [cap1_nat ha, if_pos (by omega)]
      right; left
      refine ⟨(dval 0 a : Nat), (dval 0 b : Nat), by omega, by omega, by omega, ?_, ?_⟩
      · rw [itoa_natB ha, itoa_natB hb, hab, h45]; simp
      · simp only [c1, hca, cap1_one]
    · rw [if_neg h45] at h hl ht ⊢
      have h120 : c = 120 := by rcases hcc with h | h; exact absurd h h45; exact h
      simp only [Bool.and_eq_true] at h
      obtain ⟨⟨ha, hb⟩, hbe⟩ := h
      have hv := before_val (a := [49]) (by decide) ha hbe
      have h1 : dval 0 [49] = 1 := by decide
      obtain ⟨c1, c2⟩ := cap_of hb hl
      obtain ⟨d1, d2⟩ := cap_of ha ht
      right; right
      refine ⟨(dval 0 a : Nat), (dval 0 b : Nat), by omega, by omega, by omega, by omega, ?_, ?_⟩
      · rw [itoa_natB ha, itoa_natB hb, hab, h120]; simp
      · simp only [c1, d1]

theorem nums_up (n m : Int) : (⟨n, m, 1⟩ : Run).nums = (List.range (m + 1 - n).toNat).map fun i => n + ((i : Nat) : Int) := by
  rw [List.map_eq_flatMap]; rfl
theorem nums_same (n k : Int) : (⟨n, n, k⟩ : Run).nums = List.replicate k.toNat n := by
  unfold Run.nums numsUpto
  simp only
  rw [show (n + 1 - n).toNat = 1 by omega]
  simp
theorem rep_map (c : Nat) (n : Int) : List.replicate c n = (List.range c).map fun _ => n := (List.eq_replicate_iff.2 ⟨by simp, by simp⟩).symm
theorem at0_at (l : List Int) (k : Nat) (h : k < l.length) : at0 l k = l[k] := by simp [at0, h]
theorem take_map {l : List Int} {c : Nat} (f : Nat → Int) (hc : c ≤ l.length) (h : ∀ j, j < c → at0 l j = f j) : l.take c = (List.range c).map f := by
  apply List.ext_getElem
  · simp; omega
  · intro j h1 h2
    rw [List.length_take] at h1
    rw [List.getElem_take, List.getElem_map, List.getElem_range, ← h j (by omega), at0_at l j (by omega)]
theorem map_at0 {l l' : List Int} {c : Nat} {f : Nat → Int} (h : l = (List.range c).map f ++ l') : c ≤ l.length ∧ ∀ j, j < c → at0 l j = f j := by
  subst h
  refine ⟨by simp, fun j hj => ?_⟩
  unfold at0
  rw [List.getElem?_append_left (by simpa using hj), List.getElem?_map, List.getElem?_range hj]; rfl
theorem ups_out (l : List Int) : ∀ (f m : Nat), 2 ≤ m → (∀ j, j < m - 1 → at0 l j = at0 l 0 + j) → ∀ it ∈ upsL l f m,
    m ≤ it.count ∧ it.count ≤ l.length ∧ it.text = Lib.itoa (at0 l 0) ++ [45] ++ Lib.itoa (at0 l (it.count - 1)) ∧ ∀ j, j < it.count → at0 l j = at0 l 0 + j
  | 0, m, _, _, it, h => by simp [upsL] at h
  | f + 1, m, hm, hp, it, h => by
    rw [upsL] at h
    split at h
    · rename_i hc
      have hp' : ∀ j, j < m → at0 l j = at0 l 0 + j := by
        intro j hj
        by_cases h1 : j < m - 1
        · exact hp j h1
        · obtain rfl : j = m - 1 := by omega
          rw [hc.2]; omega
      rcases List.mem_cons.1 h with rfl | h
      · exact ⟨Nat.le_refl _, hc.1, rfl, hp'⟩
      · obtain ⟨h1, h2, h3, h4⟩ := ups_out l f (m + 1) (by omega) (by simpa using hp') it h
        exact ⟨by omega, h2, h3, h4⟩
    · simp at h
theorem sames_out (l : List Int) : ∀ (f m : Nat), 2 ≤ m → (∀ j, j < m - 1 → at0 l j = at0 l 0) → ∀ it ∈ samesL l f m,
    m ≤ it.count ∧ it.count ≤ l.length ∧ it.text = Lib.itoa it.count ++ [120] ++ Lib.itoa (at0 l 0) ∧ ∀ j, j < it.count → at0 l j = at0 l 0
  | 0, m, _, _, it, h => by simp [samesL] at h
  | f + 1, m, hm, hp, it, h => by
    rw [samesL] at h
    split at h
    · rename_i hc
      have hp' : ∀ j, j < m → at0 l j = at0 l 0 := by
        intro j hj
        by_cases h1 : j < m - 1
        · exact hp j h1
        · obtain rfl : j = m - 1 := by omega
          exact hc.2
      rcases List.mem_cons.1 h with rfl | h
      · exact ⟨Nat.le_refl _, hc.1, rfl, hp'⟩
      · obtain ⟨h1, h2, h3, h4⟩ := sames_out l f (m + 1) (by omega) (by simpa using hp') it h
        exact ⟨by omega, h2, h3, h4⟩
    · simp at h
theorem ups_in (l : List Int) (c : Nat) (hc : c ≤ l.length) (h : ∀ j, j < c → at0 l j = at0 l 0 + j) : ∀ (f m : Nat), 2 ≤ m → m ≤ c → c < m + f →
    (⟨Lib.itoa (at0 l 0) ++ [45] ++ Lib.itoa (at0 l (c - 1)), c⟩ : It) ∈ upsL l f m
  | 0, m, _, h1, h2 => by omega
  | f + 1, m, h0, h1, h2 => by
    rw [upsL, if_pos ⟨by omega, by rw [h (m - 1) (by omega)]; omega⟩]
    by_cases hm : m = c
    · subst hm; simp
    · exact List.mem_cons_of_mem _ (ups_in l c hc h f (m + 1) (by omega) (by omega) (by omega))
theorem sames_in (l : List Int) (c : Nat) (hc : c ≤ l.length) (h : ∀ j, j < c → at0 l j = at0 l 0) : ∀ (f m : Nat), 2 ≤ m → m ≤ c → c < m + f →
    (⟨Lib.itoa c ++ [120] ++ Lib.itoa (at0 l 0), c⟩ : It) ∈ samesL l f m
  | 0, m, _, h1, h2 => by omega
  | f + 1, m, h0, h1, h2 => by
    rw [samesL, if_pos ⟨by omega, h (m - 1) (by omega)⟩]
    by_cases hm : m = c
    · subst hm; simp
    · exact List.mem_cons_of_mem _ (sames_in l c hc h f (m + 1) (by omega) (by omega) (by omega))
/-- Every item of a list is of a shape, and stands for the first numbers of the list. -/
theorem items_shape (l : List Int) (h0 : l ≠ []) (hl : l.length ≤ 9999) (hr : ∀ n ∈ l, 0 ≤ n ∧ n ≤ 9999) : ∀ it ∈ itemsL l, 1 ≤ it.count ∧ it.count ≤ l.length ∧ ∃ r, Shape it.text r ∧ r.nums = l.take it.count := by
  intro it h
  have hlen : 1 ≤ l.length := List.length_pos_iff.2 h0
  have ha := fun k => at0_range hr k
  unfold itemsL at h
  rw [List.cons_append] at h
  rcases List.mem_cons.1 h with rfl | h
  · refine ⟨Nat.le_refl _, hlen, ⟨at0 l 0, at0 l 0, 1⟩, .inl ⟨_, (ha 0).1, (ha 0).2, rfl, rfl⟩, ?_⟩
    rw [nums_same]
    cases l with
    | nil => exact absurd rfl h0
    | cons x r => simp [at0]
  · rcases List.mem_append.1 h with h | h
    · obtain ⟨h1, h2, h3, h4⟩ := ups_out l _ 2 (by omega) (by intro j hj; obtain rfl : j = 0 := (by omega); simp) it h
      have e := h4 (it.count - 1) (by omega)
      refine ⟨by omega, h2, ⟨at0 l 0, at0 l (it.count - 1), 1⟩, .inr (.inl ⟨_, _, (ha 0).1, by omega, (ha _).2, h3, rfl⟩), ?_⟩
      rw [nums_up, take_map (fun j => at0 l 0 + (j : Int)) h2 h4]
      congr 2; omega
    · obtain ⟨h1, h2, h3, h4⟩ := sames_out l _ 2 (by omega) (by intro j hj; obtain rfl : j = 0 := (by omega); rfl) it h
      refine ⟨by omega, h2, ⟨at0 l 0, at0 l 0, it.count⟩, .inr (.inr ⟨_, _, by omega, by omega, (ha 0).1, (ha 0).2, h3, rfl⟩), ?_⟩
      rw [nums_same, take_map (fun _ => at0 l 0) h2 h4, ← rep_map, Int.toNat_natCast]
/-- An item's text at the beginning of what it stands for is among the list's items. -/
theorem shape_items {t : List UInt8} {r : Run} (h : Shape t r) {l l' : List Int} (hl : l = r.nums ++ l') : ∃ it ∈ itemsL l, it.text = t ∧ it.count = r.nums.length := by
  rcases h with ⟨n, h0, h1, rfl, rfl⟩ | ⟨n, m, h0, h1, h2, rfl, rfl⟩ | ⟨k, n, h0, h1, h2, h3, rfl, rfl⟩
  · rw [nums_same] at hl ⊢
    refine ⟨⟨Lib.itoa (at0 l 0), 1⟩, by simp [itemsL], ?_, by simp⟩
    rw [hl]; simp [at0]
  · rw [nums_up] at hl ⊢
    obtain ⟨c1, c2⟩ := map_at0 hl
    have e0 := c2 0 (by omega)
    have e1 := c2 ((m + 1 - n).toNat - 1) (by omega)
    have hm := ups_in l (m + 1 - n).toNat c1 (fun j hj => by rw [c2 j hj, e0]; omega) l.length 2 (by omega) (by omega) (by omega)
    refine ⟨_, by unfold itemsL; simp only [List.cons_append]; exact List.mem_cons_of_mem _ (List.mem_append_left _ hm), ?_, by simp⟩
    show Lib.itoa (at0 l 0) ++ [45] ++ Lib.itoa (at0 l ((m + 1 - n).toNat - 1)) = _
    rw [e0, e1]
    congr 2
    · congr 1; omega
    · congr 1; omega
  · rw [nums_same] at hl ⊢
    have hl2 : l = (List.range k.toNat).map (fun _ => n) ++ l' := by rw [hl, rep_map]
    obtain ⟨c1, c2⟩ := map_at0 hl2
    have e0 := c2 0 (by omega)
    have hm := sames_in l k.toNat c1 (fun j hj => by rw [c2 j hj, e0]) l.length 2 (by omega) (by omega) (by omega)
    refine ⟨_, by unfold itemsL; simp only [List.cons_append]; exact List.mem_cons_of_mem _ (List.mem_append_right _ hm), ?_, by simp⟩
    show Lib.itoa ((k.toNat : Nat) : Int) ++ [120] ++ Lib.itoa (at0 l 0) = _
    rw [e0, Int.toNat_of_nonneg (by omega)]
end Go.Proofs.YtgldpdbdgjehkaaGreatDoor
