/- WordsSplits: the walk. -/
import Derived.Test.YtboigkmaccdkpaaGreatDoorRSplit
import Derived.Test.YtboigkmaccdkpaaGreatDoorJoin
import Derived.Test.YtboigkmaccdkpaaGreatDoorShown
namespace Go.Proofs.YtboigkmaccdkpaaGreatDoor
open Go.RowKit Go.Shelf

theorem rsplit_any (s : ByteArray) (w : World) : Calls Tryz.prog 37 #[.string s] w (RSplitPost s w) := by
  by_cases h : s.size ≤ 4096
  · exact rsplit_in s w h
  · have h96 : (4096 : Int) < s.size := by omega
    go_enter Tryz.func37, Tryz.ntmps37
    go_wp2_with fail
    go_ret2
    exact rsplitPost_mk (fs := []) (by rw [splitR, if_pos (by rw [size_list]; omega)]) (World.ownsRow_nil _ _ _ _) (Below.refl _ _)
theorem splitR_small (l : List UInt8) : (splitR l).1.length ≤ 64 ∧ ∀ f ∈ (splitR l).1, f.2.length ≤ 20000 := by
  by_cases h : (splitR l).2 = 0
  · have := join_split h
    have hj := this
    unfold joinR at hj
    by_cases h1 : 64 < (splitR l).1.length
    · rw [if_pos h1] at hj; cases hj
    · rw [if_neg h1] at hj
      refine ⟨by omega, fun f hf => ?_⟩
      by_cases h2 : (splitR l).1.any (fun f => !(writeR f).2) = true
      · rw [if_pos h2] at hj; cases hj
      · simp only [Bool.not_eq_true, List.any_eq_false] at h2
        have hw : (writeR f).2 = true := by have := h2 f hf; simpa using this
        obtain ⟨q, x⟩ := f
        unfold writeR at hw
        cases q
        · simp only [Bool.false_eq_true, if_false, bareB, Bool.and_eq_true] at hw
          have := (textB_parts hw.1.2).1; simp only; omega
        · simp only [if_true] at hw
          cases ht : textB x
          · rw [quoteR_no ht] at hw; cases hw
          · have := (textB_parts ht).1; simp only; omega
  · have : (splitR l).1 = [] := by
      unfold splitR at h ⊢
      split
      · rfl
      · split
        · rfl
        · rename_i h1 h2
          rw [if_neg h1, if_neg h2] at h
          split
          · rfl
          · rename_i fs hf
            rw [hf] at h
            simp only at h
            split
            · rfl
            · rename_i h3; rw [if_neg h3] at h; exact absurd rfl h
    rw [this]; simp

set_option maxHeartbeats 1000000 in
theorem splits_walk (s : ByteArray) (w : World) (he : Env w) (hs : s.size ≤ maxLen) : Calls Tryz.prog 10 #[.string s] w fun e w' => e = .returned (.bool true) ∧ Below w.heap.size w w' := by
  have c0 := fun W hE => shown_any W hE
  have C0 := Lib.hid c0
  have HE := Lib.hid he
  by_cases hl : 6000 < s.size
  · have hl' : (6000 : Int) < s.size := by omega
    clear c0 he
    go_enter Tryz.func10, Tryz.ntmps10
    go_wp2_with (go_at_call 14; refine (C0.out _ HE.out).mono ?_; rintro e w' ⟨rfl, hb⟩)
    go_ret
    exact ⟨rfl, hb⟩
  · have hl' : ¬ (6000 : Int) < s.size := by omega
    have c1 := split_any s w he hs
    have c2 := fun W => rsplit_any s W
    have ⟨hn, hx⟩ := splitR_small s.data.toList
    have hj := @join_split s.data.toList
    unfold SplitPost at c1
    unfold RSplitPost at c2
    generalize splitR s.data.toList = r at c1 c2 hn hx hj
    obtain ⟨fs, er⟩ := r
    simp only at c1 c2 hn hx hj
    have c3 := fun (v : Value) (W : World) (h : W.ownsRow w.heap.size 55 2 v fs.length (fldCells fs)) => fields_any v fs W (fldsAt_row h) (by omega)
    have c4 := fun (a b : Value) (W : World) (ha : FldsAt W a fs) (hb : FldsAt W b fs) => alike_any a b fs fs W ha hb (by unfold maxLen; omega) (by unfold maxLen; omega)
    have c5 := fun (v : Value) (W : World) (hE : Env W) (h : W.ownsRow w.heap.size 55 2 v fs.length (fldCells fs)) => join_any v fs W hE (fldsAt_row h) hx
    have ht : decide (fs = fs) = true := decide_eq_true rfl
    rw [ht] at c4
    have C1 := Lib.hid c1; have C2 := Lib.hid c2; have C3 := Lib.hid c3; have C4 := Lib.hid c4; have C5 := Lib.hid c5
    clear c0 c1 c2 c3 c4 c5 he hx hn ht
    by_cases h0 : er = 0
    · subst h0
      have C5' : Hid (∀ (v : Value) (W : World), Env W → W.ownsRow w.heap.size 55 2 v fs.length (fldCells fs) → Calls Tryz.prog 40 #[v] W fun e w' => e = .returned (.tuple #[.string s, .int .i64 0]) ∧ Below W.heap.size W w') :=
        Lib.hid fun v W hE h => by
          have := C5.out v W hE h
          unfold JoinPost at this
          rw [hj rfl] at this
          simpa only [ba_list] using this
      clear C5 hj
      go_enter Tryz.func10, Tryz.ntmps10
      go_wp2_with (first
        | (go_at_call 36; refine (C1.out).mono ?_; rintro e w1 ⟨a1, rfl, hown1, hb1⟩; have HO1 := Lib.hid hown1; have HB1 := Lib.hid hb1; clear hown1 hb1 C1)
        | (go_at_call 37; refine (C2.out _).mono ?_; rintro e w2 ⟨a2, rfl, hown2, hb2⟩; have HO2 := Lib.hid hown2; have HB2 := Lib.hid hb2; clear hown2 hb2 C2; have HO12 := Lib.hid (ownsRow_below HO1.out HB2.out))
        | (go_at_call 39; refine (C3.out _ _ HO12.out).mono ?_; rintro e w3 ⟨a3, rfl, hown3, hb3⟩; have HO3 := Lib.hid hown3; have HB3 := Lib.hid hb3; clear hown3 hb3; have HO23 := Lib.hid (ownsRow_below HO2.out HB3.out); have HO13 := Lib.hid (ownsRow_below HO12.out HB3.out))
        | (go_at_call 38; refine (C4.out _ _ _ (fldsAt_row HO3.out) (fldsAt_row HO23.out)).mono ?_; rintro e w4 ⟨rfl, hb4⟩; have HB4 := Lib.hid hb4; clear hb4; have HO14 := Lib.hid (ownsRow_below HO13.out HB4.out); have HBT := Lib.hid (((HB1.out.trans (HB2.out.mono HB1.out.size)).trans (HB3.out.mono (Nat.le_trans HB1.out.size HB2.out.size))).trans (HB4.out.mono (Nat.le_trans HB1.out.size (Nat.le_trans HB2.out.size HB3.out.size)))))
        | (go_at_call 40; refine (C5'.out _ _ (HE.out.below HBT.out) HO14.out).mono ?_; rintro e w5 ⟨rfl, hb5⟩; have HB5 := Lib.hid (HBT.out.trans (hb5.mono HBT.out.size)); clear hb5)
        | (go_at_call 14; refine (C0.out _ (HE.out.below HB5.out)).mono ?_; rintro e w6 ⟨rfl, hb6⟩; have HB6 := Lib.hid (HB5.out.trans (hb6.mono HB5.out.size)); clear hb6))
      go_ret
      exact ⟨rfl, HB6.out⟩
    · have h1 : (er == 0) = false := beq_eq_false_iff_ne.2 h0
      clear hj h0 C5
      go_enter Tryz.func10, Tryz.ntmps10
      go_wp2_with (first
        | (go_at_call 36; refine (C1.out).mono ?_; rintro e w1 ⟨a1, rfl, hown1, hb1⟩; have HO1 := Lib.hid hown1; have HB1 := Lib.hid hb1; clear hown1 hb1 C1)
        | (go_at_call 37; refine (C2.out _).mono ?_; rintro e w2 ⟨a2, rfl, hown2, hb2⟩; have HO2 := Lib.hid hown2; have HB2 := Lib.hid hb2; clear hown2 hb2 C2; have HO12 := Lib.hid (ownsRow_below HO1.out HB2.out))
        | (go_at_call 39; refine (C3.out _ _ HO12.out).mono ?_; rintro e w3 ⟨a3, rfl, hown3, hb3⟩; have HO3 := Lib.hid hown3; have HB3 := Lib.hid hb3; clear hown3 hb3; have HO23 := Lib.hid (ownsRow_below HO2.out HB3.out))
        | (go_at_call 38; refine (C4.out _ _ _ (fldsAt_row HO3.out) (fldsAt_row HO23.out)).mono ?_; rintro e w4 ⟨rfl, hb4⟩; have HB4 := Lib.hid hb4; clear hb4; have HBT := Lib.hid (((HB1.out.trans (HB2.out.mono HB1.out.size)).trans (HB3.out.mono (Nat.le_trans HB1.out.size HB2.out.size))).trans (HB4.out.mono (Nat.le_trans HB1.out.size (Nat.le_trans HB2.out.size HB3.out.size)))))
        | (go_at_call 14; refine (C0.out _ (HE.out.below HBT.out)).mono ?_; rintro e w6 ⟨rfl, hb6⟩; have HB6 := Lib.hid (HBT.out.trans (hb6.mono HBT.out.size)); clear hb6))
      go_ret
      exact ⟨rfl, HB6.out⟩
end Go.Proofs.YtboigkmaccdkpaaGreatDoor
