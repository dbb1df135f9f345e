/- WordsLeast: the walk. -/
import Derived.Test.YtgldpdbdgjehkaaGreatDoorLeast
import Derived.Test.YtgldpdbdgjehkaaGreatDoorListNil
import Derived.Test.YtgldpdbdgjehkaaGreatDoorShown
namespace Go.Proofs.YtgldpdbdgjehkaaGreatDoor
open Go.RowKit Go.Shelf

theorem expandR_err (rs : List Run) (h : (expandR rs).2 ≠ 0) : (expandR rs).1 = [] := by
  unfold expandR at h ⊢
  split
  · rfl
  · rename_i h1
    rw [if_neg h1] at h
    split
    · rfl
    · rename_i h2; rw [if_neg h2] at h; exact absurd rfl h
theorem parseR_err (s : List UInt8) (h : (parseR s).2 ≠ 0) : (parseR s).1 = [] := by
  unfold parseR at h ⊢
  split
  · rfl
  · rename_i h1
    rw [if_neg h1] at h
    split
    · rfl
    · rename_i h2
      rw [if_neg h2] at h
      split
      · rename_i h3; rw [if_pos h3] at h; exact expandR_err _ h
      · rfl
theorem listR_ok {l : List Int} (hl : l.length ≤ 500) (hr : ∀ n ∈ l, 0 ≤ n ∧ n ≤ 9999) : listR l = (canonL l, 0) := by
  unfold listR
  rw [if_neg (by omega), if_neg]
  rw [List.any_eq_true]
  rintro ⟨n, hn, hb⟩
  have := hr n hn
  simp [listBad] at hb; omega
/-- What List writes of a list that was read. -/
theorem least_facts {s : List UInt8} {l : List Int} (h : parseR s = (l, 0)) : listR l = (canonL l, 0) ∧ parseR (canonL l) = (l, 0) ∧ le (canonL l) s ∧ (canonL l).length ≤ 2500 ∧ l.length ≤ 500 := by
  by_cases h0 : s = []
  · subst h0
    have : l = [] := by
      have e : parseR [] = ([], 0) := rfl
      rw [e] at h; exact (Prod.mk.inj h).1.symm
    subst this
    exact ⟨rfl, rfl, le_refl _, Nat.zero_le _, Nat.zero_le _⟩
  · obtain ⟨h1, h2, h3⟩ := expr_parse h0 h
    obtain ⟨h4, h5⟩ := expr_nums _ s l (Nat.le_refl _) h1
    obtain ⟨h6, h7⟩ := canon_expr _ l (Nat.le_refl _) h4 h2 h5
    exact ⟨listR_ok h2 h5, parse_expr h6 (by omega) h2, canon_least _ s l (Nat.le_refl _) h1 h2, by omega, h2⟩
theorem intsAtL_row {W : World} {base : Nat} {v : Value} {l : List Int} (h : W.ownsRow base 3 1 v l.length (intCells l)) : IntsAtL W v l := by
  have hi := intsAt_row h
  obtain ⟨h1, ⟨rfl, h2⟩ | ⟨g, cap, cur, rfl, hg, hh, hc, _⟩⟩ := h
  · exact .inl ⟨List.length_eq_zero_iff.1 h2, _, _, rfl⟩
  · cases l with
    | nil => exact .inl ⟨rfl, _, _, rfl⟩
    | cons x r =>
      rcases hi with ⟨e, _⟩ | ⟨g', off', cap', e, hg', hcell⟩
      · cases e
      · exact .inr ⟨Nat.succ_pos _, g', off', cap', e, hg', by cases e; exact hc, hcell⟩
theorem slice_of {W : World} {v : Value} {xs : List Int} (h : IntsAt W v xs) : ∃ p cap, v = .slice p xs.length cap := by
  rcases h with ⟨rfl, p, cap, e⟩ | ⟨g, off, cap, e, _⟩
  · exact ⟨p, cap, e⟩
  · exact ⟨_, cap, e⟩

set_option maxHeartbeats 1000000 in
theorem least_walk (s : ByteArray) (w : World) (he : Env w) (hs : s.size ≤ maxLen) : Calls Tryz.prog 6 #[.string s] w fun e w' => e = .returned (.bool true) ∧ Below w.heap.size w w' := by
  have c0 := fun W hE => shown_any W hE
  have C0 := Lib.hid c0
  have HE := Lib.hid he
  by_cases hl : 3000 < s.size
  · have hl' : (3000 : Int) < s.size := by omega
    clear c0 he
    go_enter Tryz.func6, Tryz.ntmps6
    go_wp2_with (go_at_call 14; refine (C0.out _ HE.out).mono ?_; rintro e w' ⟨rfl, hb⟩)
    go_ret
    exact ⟨rfl, hb⟩
  · have hl' : ¬ (3000 : Int) < s.size := by omega
    have c1 := parse_any s w he hs
    unfold ParsePost at c1
    have hpe := parseR_err s.data.toList
    have hlf := @least_facts s.data.toList
    generalize parseR s.data.toList = r at c1 hpe hlf
    obtain ⟨l, er⟩ := r
    simp only at c1 hpe
    have C1 := Lib.hid c1
    clear c0 c1 he hs
    by_cases h0 : er = 0
    · subst h0
      obtain ⟨f1, f2, f3, f4, f5⟩ := hlf rfl
      have c2 := fun (v : Value) (W : World) (hE : Env W) (h : W.ownsRow w.heap.size 3 1 v l.length (intCells l)) => list_any v l W hE (intsAtL_row h) (by unfold maxLen; omega)
      have c3 := fun W hE => parse_any ⟨(canonL l).toArray⟩ W hE (by rw [ba_size]; unfold maxLen; omega)
      have c4 := fun (a b : Value) (W : World) (ha : IntsAt W a l) (hb : IntsAt W b l) => ints_any a b l l W ha hb (by unfold maxLen; omega) (by unfold maxLen; omega)
      have ht : decide (l = l) = true := decide_eq_true rfl
      rw [ht] at c4
      unfold ListPost at c2
      rw [f1] at c2
      unfold ParsePost at c3
      rw [show (⟨(canonL l).toArray⟩ : ByteArray).data.toList = canonL l by simp, f2] at c3
      rw [le_iff, size_list] at f3
      generalize canonL l = T at c2 c3 f3
      simp only at c2 c3
      have C2 := Lib.hid c2; have C3 := Lib.hid c3; have C4 := Lib.hid c4
      clear c2 c3 c4 ht f1 f2 f4 f5 hlf hpe
      rcases f3 with hlt | ⟨heq, hle⟩
      · have hlt' : (T.length : Int) < s.size := by omega
        go_enter Tryz.func6, Tryz.ntmps6
        go_wp2_with (first
          | (go_at_call 25; refine (C1.out).mono ?_; rintro e w1 ⟨a1, rfl, hown1, hb1⟩; have HO1 := Lib.hid hown1; have HB1 := Lib.hid hb1; clear hown1 hb1 C1)
          | (go_at_call 23; refine (C2.out _ _ (HE.out.below HB1.out) HO1.out).mono ?_; rintro e w2 ⟨rfl, hb2⟩; have HO12 := Lib.hid (ownsRow_below HO1.out hb2); have HB2 := Lib.hid (HB1.out.trans (hb2.mono HB1.out.size)); clear hb2 C2)
          | (go_at_call 25; refine (C3.out _ (HE.out.below HB2.out)).mono ?_; rintro e w3 ⟨a3, rfl, hown3, hb3⟩; have HO13 := Lib.hid (ownsRow_below HO12.out hb3); have HO3 := Lib.hid hown3; have HB3 := Lib.hid (HB2.out.trans (hb3.mono HB2.out.size)); clear hown3 hb3 C3)
          | (go_at_call 27; refine (C4.out _ _ _ (intsAt_row HO13.out) (intsAt_row HO3.out)).mono ?_; rintro e w4 ⟨rfl, hb4⟩; have HB4 := Lib.hid (HB3.out.trans (hb4.mono HB3.out.size)); clear hb4)
          | (go_at_call 14; refine (C0.out _ (HE.out.below HB4.out)).mono ?_; rintro e w5 ⟨rfl, hb5⟩; have HB5 := Lib.hid (HB4.out.trans (hb5.mono HB4.out.size)); clear hb5))
        go_ret
        exact ⟨rfl, HB5.out⟩
      · have hlt' : ¬ (T.length : Int) < s.size := by omega
        have heq' : ((T.length : Int) == (s.size : Int)) = true := beq_iff_eq.2 (by omega)
        have hleq : (Op.bytesLess T s.toList || T == s.toList) = true := by
          rw [Lib.toList_data]
          simp only [Bool.or_eq_true, beq_iff_eq]
          rcases hle with h | h
          · right; rw [← h]
          · left; exact h
        clear hle heq
        go_enter Tryz.func6, Tryz.ntmps6
        go_wp2_with (first
          | (go_at_call 25; refine (C1.out).mono ?_; rintro e w1 ⟨a1, rfl, hown1, hb1⟩; have HO1 := Lib.hid hown1; have HB1 := Lib.hid hb1; clear hown1 hb1 C1)
          | (go_at_call 23; refine (C2.out _ _ (HE.out.below HB1.out) HO1.out).mono ?_; rintro e w2 ⟨rfl, hb2⟩; have HO12 := Lib.hid (ownsRow_below HO1.out hb2); have HB2 := Lib.hid (HB1.out.trans (hb2.mono HB1.out.size)); clear hb2 C2)
          | (go_at_call 25; refine (C3.out _ (HE.out.below HB2.out)).mono ?_; rintro e w3 ⟨a3, rfl, hown3, hb3⟩; have HO13 := Lib.hid (ownsRow_below HO12.out hb3); have HO3 := Lib.hid hown3; have HB3 := Lib.hid (HB2.out.trans (hb3.mono HB2.out.size)); clear hown3 hb3 C3)
          | (go_at_call 27; refine (C4.out _ _ _ (intsAt_row HO13.out) (intsAt_row HO3.out)).mono ?_; rintro e w4 ⟨rfl, hb4⟩; have HB4 := Lib.hid (HB3.out.trans (hb4.mono HB3.out.size)); clear hb4)
          | (go_at_call 14; refine (C0.out _ (HE.out.below HB4.out)).mono ?_; rintro e w5 ⟨rfl, hb5⟩; have HB5 := Lib.hid (HB4.out.trans (hb5.mono HB4.out.size)); clear hb5))
        go_ret
        exact ⟨ret_bool (by simp [hleq]), HB5.out⟩
    · have h1 : (er == 0) = false := beq_eq_false_iff_ne.2 h0
      have h1' : (er != 0) = true := by rw [bne, h1]; rfl
      obtain rfl : l = [] := hpe h0
      clear hlf hpe h0
      go_enter Tryz.func6, Tryz.ntmps6
      go_wp2_with (first
        | (go_at_call 25; refine (C1.out).mono ?_; rintro e w1 ⟨a1, rfl, hown1, hb1⟩; obtain ⟨p1, cap1', rfl⟩ := slice_of (intsAt_row hown1); have HB1 := Lib.hid hb1; clear hown1 hb1 C1)
        | (go_at_call 14; refine (C0.out _ (HE.out.below HB1.out)).mono ?_; rintro e w5 ⟨rfl, hb5⟩; have HB5 := Lib.hid (HB1.out.trans (hb5.mono HB1.out.size)); clear hb5))
      go_ret
      exact ⟨rfl, HB5.out⟩
end Go.Proofs.YtgldpdbdgjehkaaGreatDoor
