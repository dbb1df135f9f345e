/- Plain facts: the item that the reference reads is the one that the program reads. -/
import Derived.Test.YtgldpdbdgjehkaaGreatDoorRLess
import Derived.Test.YtgldpdbdgjehkaaGreatDoorParse
namespace Go.Proofs.YtgldpdbdgjehkaaGreatDoor
open Go

/-- What stands before the first '-' or 'x', which of them it is, and what stands behind it. -/
def cutI : List UInt8 → Option (List UInt8 × UInt8 × List UInt8)
  | [] => none
  | c :: r => if c = 45 ∨ c = 120 then some ([], c, r) else (cutI r).map fun x => (c :: x.1, x.2.1, x.2.2)
/-- The item: its numbers' digits and its times, and whether it is one. -/
def readI (l : List UInt8) : (List UInt8 × List UInt8 × List UInt8) × Bool :=
  match cutI l with
  | none => ((l, l, [49]), natB l)
  | some (a, c, b) => if c = 45 then ((a, b, [49]), natB a && natB b && beforeB a b) else ((b, b, a), natB a && natB b && beforeB [49] a)
theorem cutI_some : ∀ (l a b : List UInt8) (c : UInt8), cutI l = some (a, c, b) → l = a ++ c :: b ∧ (c = 45 ∨ c = 120) ∧ (∀ x ∈ a, x ≠ 45 ∧ x ≠ 120)
  | [], _, _, _, h => by cases h
  | d :: r, a, b, c, h => by
    rw [cutI] at h
    by_cases hd : d = 45 ∨ d = 120
    · rw [if_pos hd] at h
      cases h
      exact ⟨rfl, hd, fun x hx => by cases hx⟩
    · rw [if_neg hd] at h
      obtain ⟨⟨a', c', b'⟩, h1, h2⟩ := Option.map_eq_some_iff.1 h
      simp only [Prod.mk.injEq] at h2
      obtain ⟨rfl, rfl, rfl⟩ := h2
      obtain ⟨e1, e2, e3⟩ := cutI_some r a' b' c' h1
      refine ⟨by rw [e1]; rfl, e2, fun x hx => ?_⟩
      rcases List.mem_cons.1 hx with rfl | hx
      · exact ⟨fun e => hd (.inl e), fun e => hd (.inr e)⟩
      · exact e3 x hx
theorem cutI_none : ∀ (l : List UInt8), cutI l = none → ∀ x ∈ l, x ≠ 45 ∧ x ≠ 120
  | [], _, _, hx => by cases hx
  | d :: r, h, x, hx => by
    rw [cutI] at h
    by_cases hd : d = 45 ∨ d = 120
    · rw [if_pos hd] at h; cases h
    · rw [if_neg hd] at h
      rcases List.mem_cons.1 hx with rfl | hx
      · exact ⟨fun e => hd (.inl e), fun e => hd (.inr e)⟩
      · exact cutI_none r (by simpa using h) x hx
theorem natB_mem {l : List UInt8} (h : natB l = true) (x : UInt8) (hx : x ∈ l) : 48 ≤ x.toNat ∧ x.toNat ≤ 57 := by
  have hd := (natB_parts h).2
  unfold allP at hd; rw [List.all_eq_true] at hd
  exact dig_bd (hd x hx)
theorem natB_sep {l : List UInt8} (c : UInt8) (hc : c = 45 ∨ c = 120) (h : c ∈ l) : natB l = false := by
  cases hn : natB l with
  | false => rfl
  | true =>
    have := natB_mem hn c h
    rcases hc with rfl | rfl
    · exact absurd this.1 (by decide)
    · exact absurd this.2 (by decide)
theorem index_in (c : UInt8) : ∀ (a b : List UInt8), c ∉ a → Lib.index (a ++ c :: b) [c] = (a.length : Int)
  | [], b, _ => by rw [List.nil_append, Lib.index, if_pos (by simp)]; first | done | rfl
  | d :: a, b, h => by
    have hd : ¬ c = d := fun e => h (by rw [e]; exact List.mem_cons_self)
    have ha : c ∉ a := fun e => h (List.mem_cons_of_mem _ e)
    rw [List.cons_append, Lib.index, if_neg (by simp [hd]), index_in c a b ha, if_neg (by simp), List.length_cons]
    omega
theorem index_out (c : UInt8) : ∀ (l : List UInt8), c ∉ l → Lib.index l [c] = -1
  | [], _ => rfl
  | d :: a, h => by
    have hd : ¬ c = d := fun e => h (by rw [e]; exact List.mem_cons_self)
    have ha : c ∉ a := fun e => h (List.mem_cons_of_mem _ e)
    rw [Lib.index, if_neg (by simp [hd]), index_out c a ha]; first | done | rfl
theorem cut_in (c : UInt8) (a b : List UInt8) (h : c ∉ a) : Lib.cut (a ++ c :: b) [c] = (a, b, true) := by
  rw [Lib.cut, index_in c a b h, if_pos (by omega), Int.toNat_natCast]
  rw [List.take_left]
  have : (a ++ c :: b).drop (a.length + [c].length) = b := by
    rw [show a.length + [c].length = a.length + 1 from rfl, List.drop_append]
    simp
  rw [this]
theorem cut_out (c : UInt8) (l : List UInt8) (h : c ∉ l) : Lib.cut l [c] = (l, [], false) := by
  rw [Lib.cut, index_out c l h, if_neg (by decide)]
theorem cap1_one : cap1 [49] = 1 := by decide
theorem first_of {x : UInt8} : ∀ {l : List UInt8}, x ∈ l → ∃ a b, l = a ++ x :: b ∧ x ∉ a
  | d :: l, h => by
    by_cases hd : x = d
    · exact ⟨[], l, by rw [hd]; rfl, fun e => by cases e⟩
    · rcases List.mem_cons.1 h with e | e
      · exact absurd e hd
      · obtain ⟨a, b, e1, e2⟩ := first_of e
        exact ⟨d :: a, b, by rw [e1]; rfl, fun h => by rcases List.mem_cons.1 h with h | h; exact hd h; exact e2 h⟩
/-- The program reads the same items as the reference. -/
theorem readI_item (l : List UInt8) : (itemR l).2 = (readI l).2 ∧ ((readI l).2 = true → (itemR l).1 = ⟨cap1 (readI l).1.1, cap1 (readI l).1.2.1, cap1 (readI l).1.2.2⟩) := by
  unfold readI
  cases h : cutI l with
  | none =>
    have hn := cutI_none l h
    have h1 := cut_out 45 l (fun e => (hn 45 e).1 rfl)
    have h2 := cut_out 120 l (fun e => (hn 120 e).2 rfl)
    have e : itemR l = (⟨cap1 l, cap1 l, 1⟩, natB l) := by rw [itemR, h1, h2]; rfl
    rw [e, cap1_one]
    exact ⟨rfl, fun _ => rfl⟩
  | some x =>
    obtain ⟨a, c, b⟩ := x
    obtain ⟨hl, hc, ha⟩ := cutI_some l a b c h
    rcases hc with rfl | rfl
    · have h1 := cut_in 45 a b (fun e => (ha 45 e).1 rfl)
      have e : itemR l = (⟨cap1 a, cap1 b, 1⟩, natB a && natB b && beforeB a b) := by rw [hl, itemR, h1]; rfl
      rw [e]
      show (natB a && natB b && beforeB a b) = (if (45 : UInt8) = 45 then ((a, b, [49]), natB a && natB b && beforeB a b) else ((b, b, a), natB a && natB b && beforeB [49] a) : (List UInt8 × List UInt8 × List UInt8) × Bool).2 ∧ _
      rw [if_pos rfl]
      refine ⟨rfl, fun _ => ?_⟩
      simp only [if_true]
      rw [cap1_one]
    · have h120 : ¬ (120 : UInt8) = 45 := by decide
      simp only [h120, if_false]
      by_cases hb : (45 : UInt8) ∈ b
      · have hnb := natB_sep 45 (.inl rfl) hb
        have hr : (natB a && natB b && beforeB [49] a) = false := by rw [hnb]; simp
        have hi : (itemR l).2 = false := by
          obtain ⟨b1, b2, hb12, hb3⟩ : ∃ b1 b2, b = b1 ++ 45 :: b2 ∧ (45 : UInt8) ∉ b1 := by
            obtain ⟨b1, b2, e, hn⟩ := first_of hb
            exact ⟨b1, b2, e, hn⟩
          have hl2 : l = (a ++ 120 :: b1) ++ 45 :: b2 := by rw [hl, hb12]; simp
          have hn : (45 : UInt8) ∉ a ++ 120 :: b1 := by
            intro e
            rcases List.mem_append.1 e with e | e
            · exact (ha 45 e).1 rfl
            · rcases List.mem_cons.1 e with e | e
              · exact absurd e (by decide)
              · exact hb3 e
          have h1 := cut_in 45 _ b2 hn
          have hna : natB (a ++ 120 :: b1) = false := natB_sep 120 (.inr rfl) (by simp)
          rw [hl2, itemR, h1]
          simp [hna]
        rw [hi, hr]
        exact ⟨rfl, fun h => by cases h⟩
      · have h1 : Lib.cut l [45] = (l, [], false) := cut_out 45 l (by
          rw [hl]; intro e
          rcases List.mem_append.1 e with e | e
          · exact (ha 45 e).1 rfl
          · rcases List.mem_cons.1 e with e | e
            · exact absurd e (by decide)
            · exact hb e)
        have h2 := cut_in 120 a b (fun e => (ha 120 e).2 rfl)
        have e : itemR l = (⟨cap1 b, cap1 b, cap1 a⟩, natB a && natB b && beforeB [49] a) := by rw [itemR, h1, hl, h2]; rfl
        rw [e]
        exact ⟨rfl, fun _ => rfl⟩
end Go.Proofs.YtgldpdbdgjehkaaGreatDoor
