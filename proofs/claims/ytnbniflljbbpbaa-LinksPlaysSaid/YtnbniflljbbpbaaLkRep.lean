/- links: slices.Repeat of one number, walked. -/
import Derived.Test.YtnbniflljbbpbaaLkRepeat
import Derived.BigRegion
namespace Go.Proofs.Ytnbniflljbbpbaa
open Go.RowKit

theorem mul_one (n : Nat) (hn : n ≤ 2000) (W : World) : Calls Try.prog 68 #[.int .u64 1, .int .u64 (n : Int)] W (OkEq (.tuple #[.int .u64 0, .int .u64 (n : Int)]) W) := by
  have := Try.bits_Mul 1 n (by decide) (by omega) W
  rw [Nat.one_mul, Nat.div_eq_of_lt (by omega), Nat.mod_eq_of_lt (by omega)] at this
  exact this
theorem rowK_row {W : World} {g n : Nat} (h : RowK W g n n) : RowF W g n (fun _ => -1) := by
  refine ⟨_, h, by simp [rowK_len], fun j hj => ?_⟩
  rw [List.getElem?_toArray]
  exact rowK_get _ _ hj
theorem below_setRow {D : Nat} {a w : World} (h : Below D a w) {g : Nat} (hg : D ≤ g) (cs : Array Value) : Below D a (w.setRow g cs) := by
  refine h.trans ⟨rfl, rfl, rfl, by simp [World.setRow], fun k hk => ?_⟩
  show (w.heap.modify g _)[k]? = _
  rw [Array.getElem?_modify, if_neg (by omega)]
set_option maxHeartbeats 2000000 in
set_option maxRecDepth 100000 in
theorem repeat_any {W : World} {b c n : Nat} (hb : W.cell? ⟨b, 0, none⟩ = some (.int .i64 (-1))) (hn : 1 ≤ n) (hm : n ≤ 2000) :
    Calls Try.prog 39 #[.slice (some ⟨b, 0, none⟩) 1 c, .int .i64 (n : Int)] W (ClonePost n (fun _ => -1) W) := by
  have j0 : (0 : Int) ≤ n := by omega
  have w1 : IntKind.u64.wrap (n : Int) = n := IntWalk.u64_in _ (by omega)
  have w2 : IntKind.i64.wrap (n : Int) = n := IntWalk.i64_in _ (by omega)
  have x1 : ¬ (9223372036854775807 : Int) < n := by omega
  have CM := Lib.hid (mul_one n hm W)
  have MK := made_int W n hm
  have hR : RowK (W.alloc (.cells (rowK n 0 (.int .i64 (-1)) (.int .i64 0)).toArray 3)) W.heap.size n 0 := heap_alloc_new W _
  have hlt : b < W.heap.size := World.block_lt_of_cell? _ _ hb
  have CP := copy_rowK hR (Nat.zero_le _) (c := n) (c' := c) (a := ⟨b, 0, none⟩) (j := 1) (l := 1) (fun i hi => by
    have e : i = 0 := by omega
    subst e
    exact (((Below.refl _ W).alloc (Nat.le_refl _) _).cell hlt).trans hb) (by rw [Nat.sub_zero]; exact (Nat.min_eq_left hn).symm)
  rw [Nat.sub_zero, Nat.zero_add] at CP
  have HN := Lib.hid hn; have HM := Lib.hid hm; have HR := Lib.hid hR
  clear hn hm hR hlt hb
  go_enter Try.func39, Try.ntmps39
  go_wp2_with fail
  refine CM.out.mono ?_
  rintro e w1 ⟨rfl, rfl⟩
  go_wp2_with fail
  have hR1 : RowK ((w1.alloc (.cells (rowK n 0 (.int .i64 (-1)) (.int .i64 0)).toArray 3)).setRow w1.heap.size (rowK n 1 (.int .i64 (-1)) (.int .i64 0)).toArray) w1.heap.size n 1 := setRow_row HR.out
  have hB1 : Below w1.heap.size w1 ((w1.alloc (.cells (rowK n 0 (.int .i64 (-1)) (.int .i64 0)).toArray 3)).setRow w1.heap.size (rowK n 1 (.int .i64 (-1)) (.int .i64 0)).toArray) := below_setRow ((Below.refl _ w1).alloc (Nat.le_refl _) _) (Nat.le_refl _) _
  generalize (w1.alloc (.cells (rowK n 0 (.int .i64 (-1)) (.int .i64 0)).toArray 3)).setRow w1.heap.size (rowK n 1 (.int .i64 (-1)) (.int .i64 0)).toArray = w2 at hR1 hB1 ⊢
  obtain ⟨g, hg⟩ : ∃ g, g = w1.heap.size := ⟨_, rfl⟩
  rw [← hg] at hR1 hB1 ⊢
  have HG := Lib.hid (Nat.le_of_eq hg.symm)
  clear hg
  clear CP MK HR CM x1
  go_loopg [8] n (fun n1 i wr => ∃ k : Nat, i = .int .i64 (k : Int) ∧ 1 ≤ k ∧ k ≤ n ∧ n ≤ k + n1 ∧ RowK wr g n k ∧ Below g w1 wr)
  case atStart => exact ⟨1, rfl, Nat.le_refl _, HN.out, by omega, hR1, hB1⟩
  case round =>
    obtain ⟨k, rfl, k1, k2, k3, hR, hB⟩ := hrel
    by_cases hlt : k < n
    · obtain ⟨n', rfl⟩ : ∃ n', gk = n' + 1 := ⟨gk - 1, by omega⟩
      have i1 : (k : Int) < n := by omega
      have i2 : (k : Int) ≤ n := by omega
      have i3 : (0 : Int) ≤ k := by omega
      obtain ⟨j, hj⟩ : ∃ j, j = Nat.min k (n - k) := ⟨_, rfl⟩
      have hj1 : 1 ≤ j := by rw [hj]; exact Nat.le_min.2 ⟨k1, by omega⟩
      have hj2 : j ≤ k := by rw [hj]; exact Nat.min_le_left _ _
      have hj3 : j ≤ n - k := by rw [hj]; exact Nat.min_le_right _ _
      have CP := copy_rowK (W := wr.drew) (g := g) (n := n) (k := k) (c := n - k) (c' := n) (a := ⟨g, 0, none⟩) (j := j) (l := k) hR k2 (fun i hi => by
        rw [WideShapes.add_plain, Nat.zero_add]
        exact row_cell (W := wr.drew) hR (by rw [List.getElem?_toArray]; exact rowK_get _ _ (by omega))) hj
      have w3 : IntKind.i64.wrap ((k : Int) + (j : Int)) = ((k + j : Nat) : Int) := by rw [IntWalk.i64_in _ (by have := HM.out; omega)]; omega
      have HJ := Lib.hid hj1; have HJ3 := Lib.hid hj3; have HRR := Lib.hid hR
      clear hj hj1 hj2 hj3 hR
      go_wp2_with fail
      go_region
      have hB2 := Lib.hid (below_setRow hB.drew (Nat.le_refl g) (rowK n (k + j) (.int .i64 (-1)) (.int .i64 0)).toArray)
      have hR2 := Lib.hid (show RowK (wr.drew.setRow g (rowK n (k + j) (.int .i64 (-1)) (.int .i64 0)).toArray) g n (k + j) from setRow_row (W := wr.drew) HRR.out)
      clear CP
      go_wp2_with fail
      go_roundg n'
      case measure => omega
      case rel => exact ⟨k + j, by go_num, by have := HJ.out; omega, by have := HJ3.out; omega, by have := HJ.out; omega, hR2.out, hB2.out⟩
    · obtain rfl : k = n := by omega
      have HRR := Lib.hid hR
      clear hR
      go_wp2_with fail
      go_ret
      exact ⟨g, k, rfl, Nat.le_refl _, HG.out, rowK_row HRR.out, hB.mono HG.out⟩
end Go.Proofs.Ytnbniflljbbpbaa
