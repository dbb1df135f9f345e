/- The statements of layer 2: ten, awake, far. -/
import Derived.Test.YtocgdibadcmnfaaDoorBtBlock
namespace Go.Proofs.YtocgdibadcmnfaaDoor
open Go.RowKit Go.Shelf

theorem ten_any (w : World) : Calls Tryd.prog 49 #[] w fun e w' => ∃ p, e = .returned (.agg #[.int .i64 10, .slice p 1 1]) ∧ WordsAt w' p [531] ∧ Below w.heap.size w w' := by
  go_enter Tryd.func49, Tryd.ntmps49
  go_wp2_with fail
  refine bodyPost_ret (v := .agg #[.int .i64 10, .slice (some ⟨w.heap.size + 1, 0, none⟩) 1 1]) (by simp [results, Tryd.results49, go_sem]) rfl ?_
  obtain ⟨x1, x2, x3, x4⟩ := alloc2 w (.cells #[.int .i64 10, .slice (some ⟨w.heap.size + 1, 0, none⟩) 1 1] 24) (.cells #[.int .u64 531] 58)
  exact ⟨_, rfl, words_of_row (ws := [531]) x4 (by simp [maxLen]) (by simp), x1⟩
theorem tcount (W : World) (p : Option Addr) (h : WordsAt W p [531]) : Calls Tryd.prog 24 #[.agg #[.int .i64 10, .slice p 1 1], .int .i64 1, .int .i64 5] W fun e w' => e = .returned (.tuple #[.int .i64 2, .int .i64 0]) ∧ Below W.heap.size W w' :=
  (count_any 10 p 1 [531] 1 5 W h).mono fun _ _ ⟨he, hb⟩ => ⟨by rw [he, show countR 10 [531] 1 5 = (2, 0) by decide +kernel], hb⟩
theorem tselect (W : World) (p : Option Addr) (h : WordsAt W p [531]) (he : BEnv W) : Calls Tryd.prog 26 #[.agg #[.int .i64 10, .slice p 1 1], .int .i64 2, .bool false] W fun e w' => e = .returned (.tuple #[.int .i64 5, .int .i64 0]) ∧ Below W.heap.size W w' :=
  (select_any 10 p 1 [531] 2 false W h (by decide) he).mono fun _ _ ⟨he, hb⟩ => ⟨by rw [he, show selectR 10 [531] 2 false = (5, 0) by decide +kernel], hb⟩
theorem tfit (W : World) (p : Option Addr) (h : WordsAt W p [531]) (he : BEnv W) : Calls Tryd.prog 35 #[.agg #[.int .i64 10, .slice p 1 1], .int .i64 3, .int .i64 0] W fun e w' => e = .returned (.tuple #[.int .i64 5, .int .i64 0]) ∧ Below W.heap.size W w' :=
  (fit_any 10 p 1 [531] 3 0 W h he).mono fun _ _ ⟨he, hb⟩ => ⟨by rw [he, show fitR 10 [531] 3 0 = (5, 0) by decide +kernel], hb⟩
theorem tbest (W : World) (p : Option Addr) (h : WordsAt W p [531]) (he : BEnv W) : Calls Tryd.prog 37 #[.agg #[.int .i64 10, .slice p 1 1], .int .i64 2] W fun e w' => e = .returned (.tuple #[.int .i64 2, .int .i64 0]) ∧ Below W.heap.size W w' :=
  (best_any 10 p 1 [531] 2 W h he).mono fun _ _ ⟨he, hb⟩ => ⟨by rw [he, show bestR 10 [531] 2 = (2, 0) by decide +kernel], hb⟩
theorem tblock (W : World) (p : Option Addr) (h : WordsAt W p [531]) : Calls Tryd.prog 39 #[.agg #[.int .i64 10, .slice p 1 1], .int .i64 2] W fun e w' => e = .returned (.tuple #[.int .i64 0, .int .i64 4]) ∧ Below W.heap.size W w' :=
  (block_any 10 p 1 [531] 2 W h).mono fun _ _ ⟨he, hb⟩ => ⟨by rw [he, show blockR 10 [531] 2 = (0, 4) by decide +kernel], hb⟩

def TruePost (w : World) (e : Ending) (w' : World) : Prop := e = .returned (.bool true) ∧ Below w.heap.size w w'
set_option maxHeartbeats 1000000 in
theorem awake_any (w : World) (he : BEnv w) : Calls Tryd.prog 14 #[] w (TruePost w) := by
  have HE := Lib.hid he
  clear he
  go_enter Tryd.func14, Tryd.ntmps14
  go_wp2_with fail
  refine (ten_any _).mono ?_
  rintro e w1 ⟨p1, rfl, h1, b1⟩
  have H1 := Lib.hid h1; have B1 := Lib.hid b1; clear h1 b1
  go_wp2_with fail
  refine (tcount _ _ H1.out).mono ?_
  rintro e w2 ⟨rfl, b2⟩
  have B2 := Lib.hid (B1.out.trans (b2.mono B1.out.size)); clear b2 B1 H1
  go_wp2_with fail
  refine (ten_any _).mono ?_
  rintro e w3 ⟨p3, rfl, h3, b3⟩
  have H3 := Lib.hid h3; have B3 := Lib.hid (B2.out.trans (b3.mono B2.out.size)); clear h3 b3 B2
  go_wp2_with fail
  refine (tselect _ _ H3.out (HE.out.below B3.out)).mono ?_
  rintro e w4 ⟨rfl, b4⟩
  have B4 := Lib.hid (B3.out.trans (b4.mono B3.out.size)); clear b4 B3 H3
  go_wp2_with fail
  refine (ten_any _).mono ?_
  rintro e w5 ⟨p5, rfl, h5, b5⟩
  have H5 := Lib.hid h5; have B5 := Lib.hid (B4.out.trans (b5.mono B4.out.size)); clear h5 b5 B4
  go_wp2_with fail
  refine (tfit _ _ H5.out (HE.out.below B5.out)).mono ?_
  rintro e w6 ⟨rfl, b6⟩
  have B6 := Lib.hid (B5.out.trans (b6.mono B5.out.size)); clear b6 B5 H5
  go_wp2_with fail
  refine (ten_any _).mono ?_
  rintro e w7 ⟨p7, rfl, h7, b7⟩
  have H7 := Lib.hid h7; have B7 := Lib.hid (B6.out.trans (b7.mono B6.out.size)); clear h7 b7 B6
  go_wp2_with fail
  refine (tbest _ _ H7.out (HE.out.below B7.out)).mono ?_
  rintro e w8 ⟨rfl, b8⟩
  have B8 := Lib.hid (B7.out.trans (b8.mono B7.out.size)); clear b8 B7 H7
  go_wp2_with fail
  refine (ten_any _).mono ?_
  rintro e w9 ⟨p9, rfl, h9, b9⟩
  have H9 := Lib.hid h9; have B9 := Lib.hid (B8.out.trans (b9.mono B8.out.size)); clear h9 b9 B8
  go_wp2_with fail
  refine (tblock _ _ H9.out).mono ?_
  rintro e w10 ⟨rfl, b10⟩
  have B10 := Lib.hid (B9.out.trans (b10.mono B9.out.size)); clear b10 B9 H9
  go_wp2_with fail
  go_ret
  exact ⟨rfl, B10.out⟩
theorem far_any (n : Int) (p : Option Addr) (len cap : Nat) (w : World) (h : len ≤ maxLen) : Calls Tryd.prog 13 #[.agg #[.int .i64 n, .slice p len cap]] w fun e w' => e = .returned (.bool (decide (100 < len))) ∧ Below w.heap.size w w' := by
  unfold maxLen at h
  go_enter Tryd.func13, Tryd.ntmps13
  go_wp2_with fail
  go_ret
  exact ⟨ret_bool (by apply decide_eq_decide.2; omega), (Below.refl _ _).alloc (Nat.le_refl _) _⟩
end Go.Proofs.YtocgdibadcmnfaaDoor
