/- WordsNumbers: the walk. -/
import Derived.Test.YtboigkmaccdkpaaGreatDoorRInt
import Derived.Test.YtboigkmaccdkpaaGreatDoorShown
namespace Go.Proofs.YtboigkmaccdkpaaGreatDoor
open Go.RowKit Go.Shelf

theorem intR_itoa (n : Int) (h0 : -9223372036854775808 ≤ n) (h1 : n ≤ 9223372036854775807) : intR (Lib.itoa n) (-9223372036854775808) 9223372036854775807 = (n, 0) := by
  rw [intR_val, if_neg (by decide), if_neg (by rw [decB_itoa]; decide), val_itoa, if_pos ⟨h0, h1, h0, h1⟩]

set_option maxHeartbeats 2000000 in
set_option maxRecDepth 100000 in
theorem numbers_walk (n mn mx : Int) (s : ByteArray) (w : World) (he : Env w) (hs : s.size ≤ maxLen) (h0 : -9223372036854775808 ≤ n) (h1 : n ≤ 9223372036854775807) :
    Calls Tryz.prog 4 #[.int .i64 n, .agg #[.string s, .int .i64 mn, .int .i64 mx]] w fun e w' => e = .returned (.bool true) ∧ Below w.heap.size w w' := by
  have c0 := fun W (hE : Env W) => shown_any W hE
  have C0 := Lib.hid c0
  have HE := Lib.hid he
  by_cases hl : 20000 < s.size
  · have hl' : (20000 : Int) < s.size := by omega
    clear c0 he h0 h1
    go_enter Tryz.func4, Tryz.ntmps4
    go_wp2_with (go_at_call 14; refine (C0.out _ (HE.out.alloc _)).mono ?_; rintro e w' ⟨rfl, hb⟩)
    go_ret
    exact ⟨rfl, ((Below.refl _ _).alloc (Nat.le_refl _) _).trans (hb.mono (by simp))⟩
  · have hl' : ¬ (20000 : Int) < s.size := by omega
    have c1 := fun W (hE : Env W) => int_any s mn mx W hE (by omega)
    have c2 := fun W => rint_any s mn mx W hs
    unfold IntPost at c2
    have hsz : (⟨(Lib.itoa n).toArray⟩ : ByteArray).size ≤ 281474976710656 := by
      have := Lib.itoa_length_le n h0 h1
      show (Lib.itoa n).toArray.size ≤ _
      simp; omega
    have c3 := fun W (hE : Env W) => int_any ⟨(Lib.itoa n).toArray⟩ (-9223372036854775808) 9223372036854775807 W hE hsz
    have e3 := intR_itoa n h0 h1
    rw [show (⟨(Lib.itoa n).toArray⟩ : ByteArray).data.toList = Lib.itoa n by simp, e3] at c3
    have c4 := fun W (hE : Env W) => digits_any n h0 h1 W hE
    have c5 := fun W => rdigits_any n h0 h1 W
    unfold DigPost at c5
    generalize intR s.data.toList mn mx = r at c1 c2
    obtain ⟨a, b⟩ := r
    simp only at c1 c2 c3
    generalize Lib.itoa n = q at c3 c4 c5
    have C1 := Lib.hid c1; have C2 := Lib.hid c2; have C3 := Lib.hid c3; have C4 := Lib.hid c4; have C5 := Lib.hid c5
    clear c0 c1 c2 c3 c4 c5 he e3 hsz h0 h1
    have HW := Lib.hid ((Below.refl w.heap.size w).alloc (Nat.le_refl _) (.cells #[.string s, .int .i64 mn, .int .i64 mx] 25))
    go_enter Tryz.func4, Tryz.ntmps4
    go_upto_region 4 with (go_at_call 19; refine (C1.out _ (HE.out.alloc _)).mono ?_; rintro e w1 ⟨rfl, hb1⟩; have HB1 := Lib.hid (HW.out.trans (hb1.mono (by simp))); have hc := (hb1.block w.heap.size (by simp)).trans (heap_alloc_new _ _); clear hb1 C1)
    have k0 : w1.cell? ⟨w.heap.size, 0, none⟩ = some (.string s) := row_cell hc rfl
    have k1 : w1.cell? ⟨w.heap.size, 1, none⟩ = some (.int .i64 mn) := row_cell hc rfl
    have k2 : w1.cell? ⟨w.heap.size, 2, none⟩ = some (.int .i64 mx) := row_cell hc rfl
    clear hc
    go_upto_region 5 with (go_at_call 20; refine (C2.out _).mono ?_; rintro e w2 ⟨rfl, hb2⟩; have HB2 := Lib.hid (HB1.out.trans (hb2.mono HB1.out.size)); clear hb2 k0 k1 k2 C2)
    go_upto_region 6 with (first
      | (go_at_call 21; refine (C4.out _ (HE.out.below HB2.out)).mono ?_; rintro e w3 ⟨rfl, hb3⟩; have HB3 := Lib.hid (HB2.out.trans (hb3.mono HB2.out.size)); clear hb3)
      | (go_at_call 19; refine (C3.out _ (HE.out.below HB3.out)).mono ?_; rintro e w4 ⟨rfl, hb4⟩; have HB4 := Lib.hid (HB3.out.trans (hb4.mono HB3.out.size)); clear hb4))
    go_wp2_with (first
      | (go_at_call 21; refine (C4.out _ (HE.out.below HB4.out)).mono ?_; rintro e w5 ⟨rfl, hb5⟩; have HB5 := Lib.hid (HB4.out.trans (hb5.mono HB4.out.size)); clear hb5)
      | (go_at_call 22; refine (C5.out _).mono ?_; rintro e w6 ⟨rfl, hb6⟩; have HB6 := Lib.hid (HB5.out.trans (hb6.mono HB5.out.size)); clear hb6)
      | (go_at_call 14; refine (C0.out _ (HE.out.below HB6.out)).mono ?_; rintro e w7 ⟨rfl, hb7⟩; have HB7 := Lib.hid (HB6.out.trans (hb7.mono HB6.out.size)); clear hb7))
    go_ret
    exact ⟨rfl, HB7.out⟩
end Go.Proofs.YtboigkmaccdkpaaGreatDoor
