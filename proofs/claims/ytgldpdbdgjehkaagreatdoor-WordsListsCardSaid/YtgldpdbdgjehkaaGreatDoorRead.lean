/- readField: what it returns. -/
import Derived.Test.YtgldpdbdgjehkaaGreatDoorCut
import Derived.Laws.ResultCell
namespace Go.Proofs.YtgldpdbdgjehkaaGreatDoor
open Go.RowKit

theorem two0 (w : World) (x y : Value) (t : TypeId) : (w.alloc (.cells #[x, y] t)).cell? ⟨w.heap.size, 0, none⟩ = some x := by unfold World.cell?; simp only [heap_alloc_new]; rfl
theorem two1 (w : World) (x y : Value) (t : TypeId) : (w.alloc (.cells #[x, y] t)).cell? ⟨w.heap.size, 1, none⟩ = some y := by unfold World.cell?; simp only [heap_alloc_new]; rfl
theorem twof0 (w : World) (x y : Value) (t : TypeId) : (w.alloc (.cells #[x, y] t)).frozen? ⟨w.heap.size, 0, none⟩ = false := by unfold World.frozen?; simp only [heap_alloc_new]; rfl
theorem twof1 (w : World) (x y : Value) (t : TypeId) : (w.alloc (.cells #[x, y] t)).frozen? ⟨w.heap.size, 1, none⟩ = false := by unfold World.frozen?; simp only [heap_alloc_new]; rfl
/-- A block of two cells in a later world. -/
theorem two_later {B : Nat} {x y : Value} {w1 w2 : World} (hz : B < w1.heap.size) (h : Below w1.heap.size w1 w2) (c0 : w1.cell? ⟨B, 0, none⟩ = some x) (c1 : w1.cell? ⟨B, 1, none⟩ = some y) (q0 : w1.frozen? ⟨B, 0, none⟩ = false) (q1 : w1.frozen? ⟨B, 1, none⟩ = false) :
    B < w2.heap.size ∧ w2.cell? ⟨B, 0, none⟩ = some x ∧ w2.cell? ⟨B, 1, none⟩ = some y ∧ w2.frozen? ⟨B, 0, none⟩ = false ∧ w2.frozen? ⟨B, 1, none⟩ = false :=
  ⟨Nat.lt_of_lt_of_le hz h.size, (h.cell (p := ⟨B, 0, none⟩) hz).trans c0, (h.cell (p := ⟨B, 1, none⟩) hz).trans c1, (h.frozen (p := ⟨B, 0, none⟩) hz).trans q0, (h.frozen (p := ⟨B, 1, none⟩) hz).trans q1⟩
/-- readField(text): quoted?, the string, is it a field? -/
def readR (l : List UInt8) : Bool × List UInt8 × Bool :=
  if bareB l then (false, l, true) else ((unquoteR l).2 == 0, (unquoteR l).1, (unquoteR l).2 == 0)
set_option maxHeartbeats 400000 in
theorem readField_any (s : ByteArray) (w : World) (he : Env w) (hs : s.size < 4294967281) :
    Calls Tryz.prog 66 #[.string s] w fun e w' => e = .returned (.tuple #[.agg #[.bool (readR s.data.toList).1, .string ⟨(readR s.data.toList).2.1.toArray⟩], .bool (readR s.data.toList).2.2]) ∧ Below w.heap.size w w' := by
  have hsm : s.size ≤ maxLen := by unfold maxLen; omega
  have cb := fun W => bare_any s W hsm
  have cc := fun W => clone_any s W (by omega)
  have cu := fun W hE => unquote_any s W hE hs
  have CC := Lib.hid cc; have CU := Lib.hid cu; have HE := Lib.hid he
  unfold readR
  clear cc cu he hs hsm
  cases hx : bareB s.data.toList
  · rw [hx] at cb
    have CB := Lib.hid cb; clear cb hx
    generalize unquoteR s.data.toList = r at CU ⊢
    obtain ⟨t, e⟩ := r
    simp only [Bool.false_eq_true, if_false]
    by_cases h0 : e = 0
    · subst h0
      go_enter Tryz.func66, Tryz.ntmps66
      go_wp2_with (first | (go_at_call 88; refine (CB.out _).mono ?_; rintro e w1 ⟨rfl, hb⟩))
      have c0 := hb.cell (p := ⟨w.heap.size, 0, none⟩) (by simp)
      have c1 := hb.cell (p := ⟨w.heap.size, 1, none⟩) (by simp)
      have q0 := hb.frozen (p := ⟨w.heap.size, 0, none⟩) (by simp)
      have q1 := hb.frozen (p := ⟨w.heap.size, 1, none⟩) (by simp)
      rw [two0] at c0; rw [two1] at c1; rw [twof0] at q0; rw [twof1] at q1
      have hz : w.heap.size < w1.heap.size := by have := hb.size; simp at this; omega
      have hE1 := (HE.out.alloc (.cells #[.bool false, .string ⟨#[]⟩] 55)).below hb
      have hbw : Below w.heap.size w w1 := ((Below.refl _ _).alloc (Nat.le_refl _) _).trans (hb.mono (by simp))
      have HB := Lib.hid hbw; have HE1 := Lib.hid hE1; clear hb hE1 hbw
      go_wp2_with (first | (go_at_call 34; refine (CU.out _ HE1.out).mono ?_; rintro e w2 ⟨rfl, hb2⟩; obtain ⟨hz2, c0', c1', q0', q1'⟩ := two_later hz hb2 c0 c1 q0 q1; have HB2 := Lib.hid hb2; clear hb2 c0 c1 q0 q1 hz))
      refine bodyPost_ret (v := .tuple #[.agg #[.bool true, .string ⟨t.toArray⟩], .bool true]) (by simp [results, Tryz.results66, go_sem, c0', c1', q0', q1', hz2]) rfl ⟨rfl, ?_⟩
      exact ((HB.out.trans (HB2.out.mono HB.out.size)).setCell (Nat.le_refl _) _).setCell (Nat.le_refl _) _
    · have h1 : (e == 0) = false := by simpa using h0
      rw [h1]; clear h0
      go_enter Tryz.func66, Tryz.ntmps66
      go_wp2_with (first | (go_at_call 88; refine (CB.out _).mono ?_; rintro e w1 ⟨rfl, hb⟩))
      have c0 := hb.cell (p := ⟨w.heap.size, 0, none⟩) (by simp)
      have c1 := hb.cell (p := ⟨w.heap.size, 1, none⟩) (by simp)
      have q0 := hb.frozen (p := ⟨w.heap.size, 0, none⟩) (by simp)
      have q1 := hb.frozen (p := ⟨w.heap.size, 1, none⟩) (by simp)
      rw [two0] at c0; rw [two1] at c1; rw [twof0] at q0; rw [twof1] at q1
      have hz : w.heap.size < w1.heap.size := by have := hb.size; simp at this; omega
      have hE1 := (HE.out.alloc (.cells #[.bool false, .string ⟨#[]⟩] 55)).below hb
      have hbw : Below w.heap.size w w1 := ((Below.refl _ _).alloc (Nat.le_refl _) _).trans (hb.mono (by simp))
      have HB := Lib.hid hbw; have HE1 := Lib.hid hE1; clear hb hE1 hbw
      go_wp2_with (first | (go_at_call 34; refine (CU.out _ HE1.out).mono ?_; rintro e w2 ⟨rfl, hb2⟩; obtain ⟨hz2, c0', c1', q0', q1'⟩ := two_later hz hb2 c0 c1 q0 q1; have HB2 := Lib.hid hb2; clear hb2 c0 c1 q0 q1 hz))
      refine bodyPost_ret (v := .tuple #[.agg #[.bool false, .string ⟨t.toArray⟩], .bool false]) (by simp [results, Tryz.results66, go_sem, c0', c1', q0', q1', hz2]) rfl ⟨rfl, ?_⟩
      exact ((HB.out.trans (HB2.out.mono HB.out.size)).setCell (Nat.le_refl _) _).setCell (Nat.le_refl _) _
  · rw [hx] at cb
    have CB := Lib.hid cb; clear cb hx
    rw [if_pos rfl]
    simp only [ba_list]
    go_enter Tryz.func66, Tryz.ntmps66
    go_wp2_with (first | (go_at_call 88; refine (CB.out _).mono ?_; rintro e w1 ⟨rfl, hb⟩))
    have c0 := hb.cell (p := ⟨w.heap.size, 0, none⟩) (by simp)
    have c1 := hb.cell (p := ⟨w.heap.size, 1, none⟩) (by simp)
    have q0 := hb.frozen (p := ⟨w.heap.size, 0, none⟩) (by simp)
    have q1 := hb.frozen (p := ⟨w.heap.size, 1, none⟩) (by simp)
    rw [two0] at c0; rw [two1] at c1; rw [twof0] at q0; rw [twof1] at q1
    have hz : w.heap.size < w1.heap.size := by have := hb.size; simp at this; omega
    have hbw : Below w.heap.size w w1 := ((Below.refl _ _).alloc (Nat.le_refl _) _).trans (hb.mono (by simp))
    have HB := Lib.hid hbw; clear hb hbw
    go_wp2_with (first | (go_at_call 64; refine (CC.out _).mono ?_; rintro e w2 ⟨rfl, hb2⟩; obtain ⟨hz2, c0', c1', q0', q1'⟩ := two_later hz hb2 c0 c1 q0 q1; have HB2 := Lib.hid hb2; clear hb2 c0 c1 q0 q1 hz))
    refine bodyPost_ret (v := .tuple #[.agg #[.bool false, .string s], .bool true]) (by simp [results, Tryz.results66, go_sem, c0', c1', q0', q1', hz2]) rfl ⟨rfl, ?_⟩
    exact ((HB.out.trans (HB2.out.mono HB.out.size)).setCell (Nat.le_refl _) _).setCell (Nat.le_refl _) _
end Go.Proofs.YtgldpdbdgjehkaaGreatDoor
