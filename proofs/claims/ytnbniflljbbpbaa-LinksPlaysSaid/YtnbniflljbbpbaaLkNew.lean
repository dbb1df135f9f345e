/- links: New, Save. -/
import Derived.Test.YtnbniflljbbpbaaLkBuild
import Derived.Test.YtnbniflljbbpbaaLkCounts
import Derived.Test.YtnbniflljbbpbaaLkAsk
namespace Go.Proofs.Ytnbniflljbbpbaa
open Go.RowKit

def F0 : LkF := ⟨fun _ => -1, fun _ => -1, fun _ => -1, fun _ => -1, fun _ => -1⟩
theorem rep_zero (n m : Nat) : Rep n m (fun _ => []) F0 :=
  ⟨fun _ _ => List.nodup_nil, (fun _ _ x h => by cases h), (fun _ _ _ _ _ x h => by cases h), fun _ _ => ⟨rfl, rfl⟩, (fun _ _ x h => by cases h), fun _ _ _ => ⟨rfl, rfl, rfl⟩⟩
theorem freeV_none (F : LkF) (n : Nat) : freeV (fun _ => 0) F n = fun _ => 0 := by
  funext j; unfold freeV
  by_cases h : j < n ∧ F.list j = -1
  · rw [if_pos h]
  · rw [if_neg h]
/-- A pool in new memory, as values and lists. -/
def NewS (W W' : World) (B n m : Nat) (D : LkB) (v : Nat → Int) (of : Nat → List Nat) : Prop := ∃ F, NewPool W W' B n m D v F ∧ Rep n m of F
def NewPost (n m : Nat) (v : Nat → Int) (of : Nat → List Nat) (W : World) (e : Ending) (W' : World) : Prop := ∃ B D, e = .returned (.tuple #[.pointer (some ⟨B, 0, none⟩), .int .i64 0]) ∧ NewS W W' B n m D v of
theorem row_zero {W : World} {g n : Nat} (h : RowK W g n 0) : RowF W g n (fun _ => 0) := by
  refine ⟨_, h, by simp [rowK_len], fun j hj => ?_⟩
  rw [List.getElem?_toArray]
  unfold rowK
  simp [hj]
set_option maxHeartbeats 4000000 in
set_option maxRecDepth 100000 in
theorem New_bad {W : World} {n m : Int} (h : countsR n m = false) : Calls Try.prog 10 #[.int .i64 n, .int .i64 m] W (OkEq (.tuple #[.pointer none, .int .i64 7]) W) := by
  have C := counts_any W n m
  rw [h] at C
  have C := Lib.hid C
  clear h
  go_enter Try.func10, Try.ntmps10
  go_wp2_with fail
  refine C.out.mono ?_
  rintro e w1 ⟨rfl, rfl⟩
  go_wp2_with fail
  go_ret2
  exact ⟨rfl, rfl⟩
theorem countsR_nat {n m : Int} (h : countsR n m = true) : ∃ a b : Nat, n = (a : Int) ∧ m = (b : Int) ∧ (1 ≤ a ∧ a ≤ 2000) ∧ (1 ≤ b ∧ b ≤ 64) := by
  unfold countsR at h
  have h := of_decide_eq_true h
  exact ⟨n.toNat, m.toNat, by omega, by omega, by omega, by omega⟩
theorem row_of_new {V z : World} {g n : Nat} {f : Nat → Int} {c : Nat} (h : RowF V g n f) (hb : Below c V z) (hg : g < c) : RowF z g n f := h.block (hb.block g hg)
theorem new_rows {W z1 z2 : World} {A1 A2 : Obj} {n m g1 g2 c1 c2 : Nat} (h1 : (W.alloc A1).heap.size ≤ g1) (r1 : RowF z1 g1 n fun _ => -1) (b1 : Below (W.alloc A1).heap.size (W.alloc A1) z1)
    (h2 : (z1.alloc A2).heap.size ≤ g2) (r2 : RowF z2 g2 m fun _ => -1) (b2 : Below (z1.alloc A2).heap.size (z1.alloc A2) z2) :
    RowsAt (z2.alloc (.cells (rowK n 0 (.int .i64 (-1)) (.int .i64 0)).toArray 3)) n m ⟨z2.heap.size, g1, g1, g1, g2, g2, n, c1, c1, c1, c2, c2⟩ (fun _ => 0) F0 ∧ Below W.heap.size W (z2.alloc (.cells (rowK n 0 (.int .i64 (-1)) (.int .i64 0)).toArray 3)) := by
  have s1 : (W.alloc A1).heap.size = W.heap.size + 1 := Array.size_push ..
  have s2 : (z1.alloc A2).heap.size = z1.heap.size + 1 := Array.size_push ..
  have t1 := b1.size; have t2 := b2.size
  have l1 := r1.lt; have l2 := r2.lt
  have B1 : Below W.heap.size W z1 := ((Below.refl _ W).alloc (Nat.le_refl _) A1).trans (b1.mono (by omega))
  have B2 : Below z1.heap.size z1 z2 := ((Below.refl _ z1).alloc (Nat.le_refl _) A2).trans (b2.mono (by omega))
  have B3 : Below z2.heap.size z2 (z2.alloc (.cells (rowK n 0 (.int .i64 (-1)) (.int .i64 0)).toArray 3)) := (Below.refl _ z2).alloc (Nat.le_refl _) _
  have q1 : RowF (z2.alloc (.cells (rowK n 0 (.int .i64 (-1)) (.int .i64 0)).toArray 3)) g1 n fun _ => -1 := (r1.below B2 l1).below B3 (by omega)
  have q2 : RowF (z2.alloc (.cells (rowK n 0 (.int .i64 (-1)) (.int .i64 0)).toArray 3)) g2 m fun _ => -1 := r2.below B3 l2
  have q0 : RowF (z2.alloc (.cells (rowK n 0 (.int .i64 (-1)) (.int .i64 0)).toArray 3)) z2.heap.size n fun _ => 0 := row_zero (heap_alloc_new z2 _)
  exact ⟨⟨q0, q1, q1, q1, q2, q2⟩, B1.trans ((B2.mono (by omega)).trans (B3.mono (by omega)))⟩
set_option maxHeartbeats 4000000 in
set_option maxRecDepth 100000 in
theorem New_ok {W : World} {n m : Nat} (nn : 1 ≤ n ∧ n ≤ 2000) (mm : 1 ≤ m ∧ m ≤ 64) : Calls Try.prog 10 #[.int .i64 (n : Int), .int .i64 (m : Int)] W (NewPost n m (fun _ => 0) (fun _ => []) W) := by
  have C := counts_any W (n : Int) (m : Int)
  rw [show countsR (n : Int) (m : Int) = true from decide_eq_true (by omega)] at C
  have C := Lib.hid C
  have CR1 := Lib.hid (fun (V : World) (b : Nat) (hb : V.cell? ⟨b, 0, none⟩ = some (.int .i64 (-1))) => repeat_any (c := 1) hb nn.1 nn.2)
  have CR2 := Lib.hid (fun (V : World) (b : Nat) (hb : V.cell? ⟨b, 0, none⟩ = some (.int .i64 (-1))) => repeat_any (c := 1) hb mm.1 (Nat.le_trans mm.2 (by decide)))
  have CB := Lib.hid (fun (V : World) (D : LkB) (h : RowsAt V n m D (fun _ => 0) F0) => build_any h nn mm)
  have MK := Lib.hid (fun V => made_int V n nn.2)
  clear nn mm
  go_enter Try.func10, Try.ntmps10
  go_wp2_with fail
  refine C.out.mono ?_
  rintro e w1 ⟨rfl, rfl⟩
  go_wp2_with fail
  refine (CR1.out _ w1.heap.size (row_cell (heap_alloc_new w1 _) rfl)).mono ?_
  rintro e z1 ⟨g1, c1, rfl, hc1, hg1, hr1, hb1⟩
  have H1 := Lib.hid (And.intro hg1 (And.intro hr1 hb1))
  clear hc1 hg1 hr1 hb1
  go_wp2_with fail
  refine (CR2.out _ z1.heap.size (row_cell (heap_alloc_new z1 _) rfl)).mono ?_
  rintro e z2 ⟨g2, c2, rfl, hc2, hg2, hr2, hb2⟩
  have H2 := Lib.hid (And.intro hg2 (And.intro hr2 hb2))
  have mk := MK.out z2
  clear hc2 hg2 hr2 hb2
  go_wp2_with fail
  have RB := new_rows (n := n) (m := m) (c1 := c1) (c2 := c2) H1.out.1 H1.out.2.1 H1.out.2.2 H2.out.1 H2.out.2.1 H2.out.2.2
  refine (CB.out _ ⟨z2.heap.size, g1, g1, g1, g2, g2, n, c1, c1, c1, c2, c2⟩ RB.1).mono ?_
  rintro e z3 ⟨B, D, rfl, P⟩
  have HP := Lib.hid (new_less P RB.2)
  clear P RB mk MK CB CR1 CR2 C
  go_wp2_with fail
  go_ret2
  exact ⟨B, D, rfl, F0, by have := HP.out; rw [freeV_none] at this; exact this, rep_zero n m⟩
/-- What New returns. -/
def NewR (n m : Int) (W : World) (e : Ending) (W' : World) : Prop :=
  (countsR n m = false ∧ e = .returned (.tuple #[.pointer none, .int .i64 7]) ∧ W' = W) ∨
  (∃ a b : Nat, n = (a : Int) ∧ m = (b : Int) ∧ (1 ≤ a ∧ a ≤ 2000) ∧ (1 ≤ b ∧ b ≤ 64) ∧ countsR n m = true ∧ NewPost a b (fun _ => 0) (fun _ => []) W e W')
theorem New_any (W : World) (n m : Int) : Calls Try.prog 10 #[.int .i64 n, .int .i64 m] W (NewR n m W) := by
  cases h : countsR n m with
  | false => exact (New_bad h).mono (fun e w' hw => .inl ⟨h, hw.1, hw.2⟩)
  | true =>
    obtain ⟨a, b, rfl, rfl, ha, hb⟩ := countsR_nat h
    exact (New_ok ha hb).mono (fun e w' hw => .inr ⟨a, b, rfl, rfl, ha, hb, h, hw⟩)
end Go.Proofs.Ytnbniflljbbpbaa
