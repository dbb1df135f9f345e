/- WordsLists: the walk. -/
import Derived.Test.YtgldpdbdgjehkaaGreatDoorRParseLoop
import Derived.Test.YtgldpdbdgjehkaaGreatDoorRListAny
import Derived.Test.YtgldpdbdgjehkaaGreatDoorWLeast
namespace Go.Proofs.YtgldpdbdgjehkaaGreatDoor
open Go.RowKit Go.Shelf

theorem rparse_any (s : ByteArray) (w : World) (he : Env w) (hs : s.size ≤ maxLen) : Calls Tryz.prog 26 #[.string s] w (ParsePost s w) := by
  by_cases h1 : 2500 < s.size
  · exact rparse_long s w h1 hs
  · by_cases h0 : s.size = 0
    · exact rparse_none s w h0
    · exact rparse_in s w he (by omega) (by omega)
theorem IntsAtL.below {w w' : World} {v : Value} {l : List Int} (h : IntsAtL w v l) (hb : Below w.heap.size w w') : IntsAtL w' v l := by
  rcases h with h | ⟨h0, g, off, cap, e, hg, hcap, hc⟩
  · exact .inl h
  · exact .inr ⟨h0, g, off, cap, e, Nat.lt_of_lt_of_le hg hb.size, hcap, fun j hj => (hb.cell (p := ⟨g, off + j, none⟩) hg).trans (hc j hj)⟩
theorem IntsAtL.ints {w : World} {v : Value} {l : List Int} (h : IntsAtL w v l) : IntsAt w v l := by
  rcases h with h | ⟨h0, g, off, cap, e, hg, hcap, hc⟩
  · exact .inl h
  · exact .inr ⟨g, off, cap, e, hg, hc⟩
/-- What List writes is read as the list. -/
theorem lists_back {l : List Int} {t : List UInt8} (h : listR l = (t, 0)) : parseR t = (l, 0) ∧ t.length ≤ 2500 ∧ l.length ≤ 500 := by
  unfold listR at h
  by_cases h5 : 500 < l.length
  · rw [if_pos h5] at h; cases (Prod.mk.inj h).2
  · rw [if_neg h5] at h
    by_cases hb : l.any listBad = true
    · rw [if_pos hb] at h; cases (Prod.mk.inj h).2
    · rw [if_neg hb] at h
      obtain rfl := (Prod.mk.inj h).1
      have hr : ∀ x ∈ l, 0 ≤ x ∧ x ≤ 9999 := by
        intro x hx
        apply Classical.byContradiction
        intro hn
        apply hb
        rw [List.any_eq_true]
        exact ⟨x, hx, by simp [listBad]; omega⟩
      by_cases h0 : l = []
      · subst h0; exact ⟨rfl, Nat.zero_le _, Nat.zero_le _⟩
      · obtain ⟨h6, h7⟩ := canon_expr _ l (Nat.le_refl _) h0 (by omega) hr
        exact ⟨parse_expr h6 (by omega) (by omega), by omega, by omega⟩
theorem parseR_len (s : List UInt8) : (parseR s).1.length ≤ maxLen := by
  by_cases h : (parseR s).2 = 0
  · obtain ⟨l, er, e⟩ : ∃ l er, parseR s = (l, er) := ⟨_, _, rfl⟩
    rw [e] at h ⊢
    simp only at h
    subst h
    have := (least_facts e).2.2.2.2
    simp only; unfold maxLen; omega
  · rw [parseR_err s h]; simp

set_option maxHeartbeats 2000000 in
set_option maxRecDepth 100000 in
theorem lists_walk (v : Value) (l : List Int) (s : ByteArray) (w : World) (he : Env w) (h : IntsAtL w v l) (hlm : l.length ≤ maxLen) (hs : s.size ≤ maxLen) :
    Calls Tryz.prog 5 #[v, .string s] w fun e w' => e = .returned (.bool true) ∧ Below w.heap.size w w' := by
  have c0 := fun W hE => shown_any W hE
  have C0 := Lib.hid c0
  have HE := Lib.hid he
  have HL := Lib.hid h
  obtain ⟨pv, cv, hv⟩ := h.ints.len
  have HV := Lib.hid hv
  have hl9 : (l.length : Int) ≤ 9223372036854775807 := by unfold maxLen at hlm; omega
  have hs9 : (s.size : Int) ≤ 9223372036854775807 := by unfold maxLen at hs; omega
  clear c0 he h
  by_cases hbig : 520 < l.length ∨ 3000 < s.size
  · subst hv
    have hlb : (520 : Int) < l.length ∨ (¬ (520 : Int) < l.length ∧ (3000 : Int) < s.size) := by omega
    clear hbig
    rcases hlb with hlb | ⟨hlb, hlb2⟩
    all_goals
      go_enter Tryz.func5, Tryz.ntmps5
      go_wp2_with (go_at_call 14; refine (C0.out _ HE.out).mono ?_; rintro e w' ⟨rfl, hb⟩)
      go_ret
      exact ⟨rfl, hb⟩
  · have c1 := fun W hW hE => list_any v l W hE (HL.out.below hW) hlm
    have c2 := fun W hW => rlist_any v l W (HL.out.below hW) hlm
    have c3 := fun W hE => parse_any s W hE hs
    have c4 := fun W hE => rparse_any s W hE hs
    have hpl := parseR_len s.data.toList
    have hback := @lists_back l
    have c5 := fun (a b : Value) (W : World) (ha : IntsAt W a (parseR s.data.toList).1) (hb : IntsAt W b (parseR s.data.toList).1) => ints_any a b _ _ W ha hb hpl hpl
    rw [show decide ((parseR s.data.toList).1 = (parseR s.data.toList).1) = true from decide_eq_true rfl] at c5
    unfold ListPost at c1 c2
    unfold ParsePost at c3 c4
    generalize parseR s.data.toList = pr at c3 c4 c5
    obtain ⟨ps, pe⟩ := pr
    obtain ⟨t, er, hlr⟩ : ∃ t er, listR l = (t, er) := ⟨_, _, rfl⟩
    rw [hlr] at c1 c2 hback
    simp only at c1 c2 c3 c4 c5
    have C1 := Lib.hid c1; have C2 := Lib.hid c2; have C3 := Lib.hid c3; have C4 := Lib.hid c4; have C5 := Lib.hid c5
    have hlb : ¬ (520 : Int) < l.length := by omega
    have hlb2 : ¬ (3000 : Int) < s.size := by omega
    clear c1 c2 c3 c4 c5 hbig hpl hlr hlm hs
    have t1 : (t != t) = false := by simp
    have t2 : (er != er) = false := by simp
    have t3 : (pe != pe) = false := by simp
    subst hv
    by_cases h0 : er = 0
    · subst h0
      obtain ⟨f1, f2, f3⟩ := hback rfl
      have c6 := fun W hE => parse_any ⟨t.toArray⟩ W hE (by rw [ba_size]; unfold maxLen; omega)
      unfold ParsePost at c6
      rw [show (⟨t.toArray⟩ : ByteArray).data.toList = t by simp, f1] at c6
      simp only at c6
      have c7 := fun (a b : Value) (W : World) (ha : IntsAt W a l) (hb : IntsAt W b l) => ints_any a b l l W ha hb (by unfold maxLen; omega) (by unfold maxLen; omega)
      rw [show decide (l = l) = true from decide_eq_true rfl] at c7
      have C6 := Lib.hid c6; have C7 := Lib.hid c7
      clear c6 c7 f1 f2 f3 hback
      go_enter Tryz.func5, Tryz.ntmps5
      go_wp2_with (first
        | (go_at_call 23; refine (C1.out _ (Below.refl _ _) HE.out).mono ?_; rintro e w1 ⟨rfl, hb1⟩; have HB1 := Lib.hid hb1; clear hb1 C1)
        | (go_at_call 24; refine (C2.out _ HB1.out).mono ?_; rintro e w2 ⟨rfl, hb2⟩; have HB2 := Lib.hid (HB1.out.trans (hb2.mono HB1.out.size)); clear hb2 C2)
        | (go_at_call 25; refine (C3.out _ (HE.out.below HB2.out)).mono ?_; rintro e w3 ⟨a3, rfl, ho3, hb3⟩; have HO3 := Lib.hid ho3; have HB3 := Lib.hid (HB2.out.trans (hb3.mono HB2.out.size)); clear hb3 ho3 C3)
        | (go_at_call 26; refine (C4.out _ (HE.out.below HB3.out)).mono ?_; rintro e w4 ⟨a4, rfl, ho4, hb4⟩; have HO34 := Lib.hid (ownsRow_below HO3.out hb4); have HO4 := Lib.hid ho4; have HB4 := Lib.hid (HB3.out.trans (hb4.mono HB3.out.size)); clear hb4 ho4 C4)
        | (go_at_call 27; refine (C5.out _ _ _ (intsAt_row HO34.out) (intsAt_row HO4.out)).mono ?_; rintro e w5 ⟨rfl, hb5⟩; have HB5 := Lib.hid (HB4.out.trans (hb5.mono HB4.out.size)); clear hb5 C5)
        | (go_at_call 25; refine (C6.out _ (HE.out.below HB5.out)).mono ?_; rintro e w6 ⟨a6, rfl, ho6, hb6⟩; have HO6 := Lib.hid ho6; have HB6 := Lib.hid (HB5.out.trans (hb6.mono HB5.out.size)); clear hb6 ho6 C6)
        | (go_at_call 27; refine (C7.out _ _ _ (intsAt_row HO6.out) (HL.out.below HB6.out).ints).mono ?_; rintro e w7 ⟨rfl, hb7⟩; have HB7 := Lib.hid (HB6.out.trans (hb7.mono HB6.out.size)); clear hb7 C7)
        | (go_at_call 14; refine (C0.out _ (HE.out.below HB7.out)).mono ?_; rintro e w8 ⟨rfl, hb8⟩; have HB8 := Lib.hid (HB7.out.trans (hb8.mono HB7.out.size)); clear hb8))
      go_ret
      exact ⟨rfl, HB8.out⟩
    · have t4 : (er == 0) = false := beq_eq_false_iff_ne.2 h0
      clear hback h0
      go_enter Tryz.func5, Tryz.ntmps5
      go_wp2_with (first
        | (go_at_call 23; refine (C1.out _ (Below.refl _ _) HE.out).mono ?_; rintro e w1 ⟨rfl, hb1⟩; have HB1 := Lib.hid hb1; clear hb1 C1)
        | (go_at_call 24; refine (C2.out _ HB1.out).mono ?_; rintro e w2 ⟨rfl, hb2⟩; have HB2 := Lib.hid (HB1.out.trans (hb2.mono HB1.out.size)); clear hb2 C2)
        | (go_at_call 25; refine (C3.out _ (HE.out.below HB2.out)).mono ?_; rintro e w3 ⟨a3, rfl, ho3, hb3⟩; have HO3 := Lib.hid ho3; have HB3 := Lib.hid (HB2.out.trans (hb3.mono HB2.out.size)); clear hb3 ho3 C3)
        | (go_at_call 26; refine (C4.out _ (HE.out.below HB3.out)).mono ?_; rintro e w4 ⟨a4, rfl, ho4, hb4⟩; have HO34 := Lib.hid (ownsRow_below HO3.out hb4); have HO4 := Lib.hid ho4; have HB4 := Lib.hid (HB3.out.trans (hb4.mono HB3.out.size)); clear hb4 ho4 C4)
        | (go_at_call 27; refine (C5.out _ _ _ (intsAt_row HO34.out) (intsAt_row HO4.out)).mono ?_; rintro e w5 ⟨rfl, hb5⟩; have HB5 := Lib.hid (HB4.out.trans (hb5.mono HB4.out.size)); clear hb5 C5)
        | (go_at_call 14; refine (C0.out _ (HE.out.below HB5.out)).mono ?_; rintro e w8 ⟨rfl, hb8⟩; have HB8 := Lib.hid (HB5.out.trans (hb8.mono HB5.out.size)); clear hb8))
      go_ret
      exact ⟨rfl, HB8.out⟩
end Go.Proofs.YtgldpdbdgjehkaaGreatDoor
