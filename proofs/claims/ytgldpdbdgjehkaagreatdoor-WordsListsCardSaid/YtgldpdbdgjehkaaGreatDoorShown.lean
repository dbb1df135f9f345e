/- shown: the calls that every statement makes at its end. -/
import Derived.Test.YtgldpdbdgjehkaaGreatDoorClosed
namespace Go.Proofs.YtgldpdbdgjehkaaGreatDoor
open Go.RowKit Go.Shelf

theorem cells_new (W : World) (xs : List Int) (j : Nat) (h : j < xs.length) : (W.alloc (.cells (intCells xs).toArray 3)).cell? ⟨W.heap.size, 0 + j, none⟩ = some (.int .i64 (at0 xs j)) := by
  rw [Nat.zero_add]
  refine row_cell (heap_alloc_new _ _) ?_
  rw [List.getElem?_toArray]; exact intCells_at0 xs j h
theorem intsAt_new (W : World) (xs : List Int) (h : 0 < xs.length) : IntsAt (W.alloc (.cells (intCells xs).toArray 3)) (.slice (some ⟨W.heap.size, 0, none⟩) xs.length xs.length) xs :=
  .inr ⟨_, 0, _, rfl, lt_of_block (heap_alloc_new _ _), fun j hj => cells_new W xs j hj⟩
theorem fldsAt_new (W : World) (t : TypeId) (fs : List Fld) (h : 0 < fs.length) : FldsAt (W.alloc (.cells (fldCells fs).toArray t)) (.slice (some ⟨W.heap.size, 0, none⟩) fs.length fs.length) fs := by
  refine .inr ⟨h, _, 0, _, rfl, lt_of_block (heap_alloc_new _ _), fun j hj => ?_⟩
  obtain ⟨e0, e1⟩ := fldCells_at fs j hj
  simp only [Nat.zero_add]
  exact ⟨row_cell (heap_alloc_new _ _) (by rw [List.getElem?_toArray]; exact e0), row_cell (heap_alloc_new _ _) (by rw [List.getElem?_toArray]; exact e1)⟩
theorem list_new (W : World) (he : Env W) (xs : List Int) (t : List UInt8) (er : Int) (h0 : 0 < xs.length) (hm : xs.length ≤ maxLen) (h : listR xs = (t, er)) :
    Calls Tryz.prog 23 #[.slice (some ⟨W.heap.size, 0, none⟩) xs.length xs.length] (W.alloc (.cells (intCells xs).toArray 3)) fun e w' => e = .returned (.tuple #[.string ⟨t.toArray⟩, .int .i64 er]) ∧ Below W.heap.size W w' := by
  refine (list_some W.heap.size 0 xs.length xs _ (he.alloc _) h0 hm (Nat.le_refl _) (lt_of_block (heap_alloc_new _ _)) (fun j hj => cells_new W xs j hj)).mono ?_
  rintro e w' ⟨rfl, hb⟩
  rw [h]
  exact ⟨rfl, ((Below.refl _ W).alloc (Nat.le_refl _) _).trans (hb.mono (by simp))⟩
theorem parse_is (s : ByteArray) (W : World) (he : Env W) (hs : s.size ≤ maxLen) (xs : List Int) (er : Int) (h : parseR s.data.toList = (xs, er)) :
    Calls Tryz.prog 25 #[.string s] W fun e w' => ∃ v, e = .returned (.tuple #[v, .int .i64 er]) ∧ IntsAt w' v xs ∧ Below W.heap.size W w' := by
  refine (parse_any s W he hs).mono ?_
  rintro e w' ⟨v, rfl, ho, hb⟩
  rw [h] at ho ⊢
  exact ⟨v, rfl, intsAt_row ho, hb⟩
theorem split_is (s : ByteArray) (W : World) (he : Env W) (hs : s.size ≤ maxLen) (fs : List Fld) (er : Int) (h : splitR s.data.toList = (fs, er)) :
    Calls Tryz.prog 36 #[.string s] W fun e w' => ∃ v, e = .returned (.tuple #[v, .int .i64 er]) ∧ FldsAt w' v fs ∧ Below W.heap.size W w' := by
  refine (split_any s W he hs).mono ?_
  rintro e w' ⟨v, rfl, ho, hb⟩
  rw [h] at ho ⊢
  exact ⟨v, rfl, fldsAt_row ho, hb⟩
theorem quote_is (s : ByteArray) (W : World) (he : Env W) (hs : s.size ≤ maxLen) (t : List UInt8) (er : Int) (h : quoteR s.data.toList = (t, er)) :
    Calls Tryz.prog 32 #[.string s] W fun e w' => e = .returned (.tuple #[.string ⟨t.toArray⟩, .int .i64 er]) ∧ Below W.heap.size W w' := by
  refine (quote_any s W he hs).mono ?_
  rintro e w' ⟨rfl, hb⟩
  rw [h]
  exact ⟨rfl, hb⟩

theorem mx (n : Nat) (h : n ≤ 1000) : n ≤ maxLen := by unfold maxLen; omega
theorem call1 (W : World) (he : Env W) : Calls Tryz.prog 23 #[.slice (some ⟨W.heap.size, 0, none⟩) 4 4] (W.alloc (.cells #[.int .i64 1, .int .i64 2, .int .i64 3, .int .i64 7] 3)) fun e w' => e = .returned (.tuple #[.string ⟨#[49, 45, 51, 44, 55]⟩, .int .i64 0]) ∧ Below W.heap.size W w' :=
  list_new W he [1, 2, 3, 7] [49, 45, 51, 44, 55] 0 (Nat.succ_pos _) (mx 4 (by decide)) ex_list1
theorem call2 (W : World) (he : Env W) : Calls Tryz.prog 23 #[.slice (some ⟨W.heap.size, 0, none⟩) 5 5] (W.alloc (.cells #[.int .i64 1, .int .i64 2, .int .i64 3, .int .i64 3, .int .i64 3] 3)) fun e w' => e = .returned (.tuple #[.string ⟨#[49, 44, 50, 44, 51, 120, 51]⟩, .int .i64 0]) ∧ Below W.heap.size W w' :=
  list_new W he [1, 2, 3, 3, 3] [49, 44, 50, 44, 51, 120, 51] 0 (Nat.succ_pos _) (mx 5 (by decide)) ex_list2
theorem call3 (W : World) (he : Env W) : Calls Tryz.prog 25 #[.string ⟨#[53, 45, 55, 44, 50, 120, 57]⟩] W fun e w' => ∃ v, e = .returned (.tuple #[v, .int .i64 0]) ∧ IntsAt w' v [5, 6, 7, 9, 9] ∧ Below W.heap.size W w' :=
  parse_is ⟨#[53, 45, 55, 44, 50, 120, 57]⟩ W he (mx 7 (by decide)) [5, 6, 7, 9, 9] 0 ex_parse
theorem call4 (W : World) (he : Env W) : Calls Tryz.prog 32 #[.string ⟨#[115, 97, 121, 32, 34, 97, 34]⟩] W fun e w' => e = .returned (.tuple #[.string ⟨#[34, 115, 97, 121, 32, 34, 34, 97, 34, 34, 34]⟩, .int .i64 0]) ∧ Below W.heap.size W w' :=
  quote_is ⟨#[115, 97, 121, 32, 34, 97, 34]⟩ W he (mx 7 (by decide)) [34, 115, 97, 121, 32, 34, 34, 97, 34, 34, 34] 0 ex_quote
def exFlds : List Fld := [(false, [99, 114, 101, 97, 116, 101]), (true, [109, 97, 105, 110, 32, 97, 114, 101, 110, 97]), (false, [49])]
theorem call5 (W : World) (he : Env W) : Calls Tryz.prog 36 #[.string ⟨#[99, 114, 101, 97, 116, 101, 32, 34, 109, 97, 105, 110, 32, 97, 114, 101, 110, 97, 34, 32, 49]⟩] W fun e w' => ∃ v, e = .returned (.tuple #[v, .int .i64 0]) ∧ FldsAt w' v exFlds ∧ Below W.heap.size W w' :=
  split_is ⟨#[99, 114, 101, 97, 116, 101, 32, 34, 109, 97, 105, 110, 32, 97, 114, 101, 110, 97, 34, 32, 49]⟩ W he (mx 21 (by decide)) exFlds 0 ex_split

set_option maxHeartbeats 1000000 in
set_option maxRecDepth 100000 in
theorem shown_any (w : World) (he : Env w) : Calls Tryz.prog 14 #[] w fun e w' => e = .returned (.bool true) ∧ Below w.heap.size w w' := by
  have HE := Lib.hid he; clear he
  go_enter Tryz.func14, Tryz.ntmps14
  go_upto_region 2 with (go_at_call 23; refine (call1 _ HE.out).mono ?_; rintro e w1 ⟨rfl, hb1⟩; have HB1 := Lib.hid hb1; have HE1 := Lib.hid (HE.out.below hb1); clear hb1)
  go_upto_region 3 with (go_at_call 23; refine (call2 _ HE1.out).mono ?_; rintro e w2 ⟨rfl, hb2⟩; have HB2 := Lib.hid (HB1.out.trans (hb2.mono HB1.out.size)); have HE2 := Lib.hid (HE.out.below HB2.out); clear hb2)
  go_upto_region 4 with (go_at_call 25; refine (call3 _ HE2.out).mono ?_; rintro e w3 ⟨v3, rfl, hi3, hb3⟩; have HI3 := Lib.hid hi3; have HB3 := Lib.hid (HB2.out.trans (hb3.mono HB2.out.size)); have HE3 := Lib.hid (HE.out.below HB3.out); clear hb3 hi3)
  go_upto_region 5 with (go_at_call 32; refine (call4 _ HE3.out).mono ?_; rintro e w4 ⟨rfl, hb4⟩; have HI4 := Lib.hid (HI3.out.below hb4); have HB4 := Lib.hid (HB3.out.trans (hb4.mono HB3.out.size)); have HE4 := Lib.hid (HE.out.below HB4.out); clear hb4)
  go_upto_region 6 with (go_at_call 36; refine (call5 _ HE4.out).mono ?_; rintro e w5 ⟨v5, rfl, hf5, hb5⟩; have HI5 := Lib.hid (HI4.out.below hb5); have HF5 := Lib.hid hf5; have HB5 := Lib.hid (HB4.out.trans (hb5.mono HB4.out.size)); clear hb5 hf5)
  clear HE1 HE2 HE3 HE4 HB1 HB2 HB3 HB4 HI3 HI4
  go_wp2_with (first
    | (go_at_call 27; refine (ints_any _ _ [5, 6, 7, 9, 9] [5, 6, 7, 9, 9] _ (HI5.out.below ((Below.refl _ _).alloc (Nat.le_refl _) _)) (intsAt_new w5 [5, 6, 7, 9, 9] (Nat.succ_pos _)) (mx 5 (by decide)) (mx 5 (by decide))).mono ?_; rintro e w6 ⟨rfl, hb6⟩; have HB6 := Lib.hid (((Below.refl w5.heap.size w5).alloc (Nat.le_refl _) _).trans (hb6.mono (by simp))); clear hb6)
    | (go_at_call 39; refine (fields_any _ exFlds _ (HF5.out.below HB6.out) (by decide)).mono ?_; rintro e w7 ⟨v7, rfl, ho7, hb7⟩; have HB7 := Lib.hid (HB6.out.trans (hb7.mono HB6.out.size)); have HF7 := Lib.hid (fldsAt_row ho7); clear hb7 ho7)
    | (go_at_call 38; refine (alike_any _ _ exFlds exFlds _ (HF7.out.below ((Below.refl _ _).alloc (Nat.le_refl _) _)) (fldsAt_new w7 65 exFlds (Nat.succ_pos _)) (mx 3 (by decide)) (mx 3 (by decide))).mono ?_; rintro e w8 ⟨rfl, hb8⟩; have HB8 := Lib.hid (((Below.refl w7.heap.size w7).alloc (Nat.le_refl _) _).trans (hb8.mono (by simp))); clear hb8))
  go_ret
  have h7 := HB5.out.trans (HB7.out.mono HB5.out.size)
  exact ⟨rfl, h7.trans (HB8.out.mono h7.size)⟩
end Go.Proofs.YtgldpdbdgjehkaaGreatDoor
