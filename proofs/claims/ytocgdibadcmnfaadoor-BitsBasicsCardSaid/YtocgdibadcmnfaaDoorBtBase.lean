/- bits: ones, mask, length, Check, checkRun. -/
import Derived.Test.YtocgdibadcmnfaaDoorProg
import Derived.Test.YtocgdibadcmnfaaDoorBtMath
import Derived.WalkKit
import Derived.WalkLawsBesides
import Derived.WalkSpells
import Derived.Lib.Hide
import Derived.Outline
import Derived.Laws.BitsAllLaws
import Derived.Laws.ShiftsVarLaws
import Derived.Deep.QuietTactic
import Derived.BigQuiet
import Derived.IntWalk
import Derived.Below
namespace Go.Proofs.YtocgdibadcmnfaaDoor
open Go.RowKit

theorem ret_int {k : IntKind} {a b : Int} (h : a = b) : Ending.returned (.int k a) = .returned (.int k b) := by rw [h]
theorem ret_bool {a b : Bool} (h : a = b) : Ending.returned (.bool a) = .returned (.bool b) := by rw [h]
theorem ones_val : ∀ k, k < 65 → IntKind.u64.wrap (IntKind.u64.wrap (2 ^ k) - 1) = ((onesR k : Nat) : Int) := by decide +kernel
theorem ones_64 (k : Nat) (h : 64 ≤ k) : onesR k = onesR 64 := by unfold onesR; rw [Nat.min_eq_right h, Nat.min_eq_right (Nat.le_refl _)]
theorem ones_any (n : Int) (w : World) : Calls Tryd.prog 72 #[.int .i64 n] w fun e w' => e = .returned (.int .u64 ((onesR n.toNat : Nat) : Int)) ∧ w = w' := by
  by_cases h1 : n < 0
  · have e : onesR n.toNat = 0 := by rw [show n.toNat = 0 by omega]; rfl
    have E := Lib.hid e; clear e
    go_enter Tryd.func72, Tryd.ntmps72
    go_wp2_with fail
    go_ret
    exact ⟨ret_int (by rw [E.out]; rfl), rfl⟩
  · by_cases h2 : n ≤ 64
    · have e := ones_val n.toNat (by omega)
      have E := Lib.hid e; clear e
      go_enter Tryd.func72, Tryd.ntmps72
      go_wp2_with fail
      go_ret
      exact ⟨ret_int E.out, rfl⟩
    · have e : IntKind.u64.wrap (IntKind.u64.wrap 18446744073709551616 - 1) = ((onesR n.toNat : Nat) : Int) := by rw [ones_64 _ (by omega)]; exact ones_val 64 (by omega)
      have E := Lib.hid e; clear e
      go_enter Tryd.func72, Tryd.ntmps72
      go_wp2_with fail
      go_ret
      exact ⟨ret_int E.out, rfl⟩
theorem mask_any (k a b : Nat) (hk : k ≤ 100000) (ha : a ≤ 100000) (hb : b ≤ 100000) (w : World) : Calls Tryd.prog 53 #[.int .i64 (k : Int), .int .i64 (a : Int), .int .i64 (b : Int)] w fun e w' => e = .returned (.int .u64 ((maskR k a b : Nat) : Int)) ∧ w = w' := by
  have c := fun n W => ones_any n W
  have e1 : ((b : Int) - (k : Int) * 64).toNat = b - 64 * k := by omega
  have e2 : ((a : Int) - (k : Int) * 64).toNat = a - 64 * k := by omega
  have e3 : bits .andNot .u64 ((onesR (b - 64 * k) : Nat) : Int) ((onesR (a - 64 * k) : Nat) : Int) = ((maskR k a b : Nat) : Int) := u64_andNot_nat _ _ (ones_lt _) (ones_lt _)
  have k0 : (0 : Int) ≤ k := by omega
  have k1 : (k : Int) ≤ 100000 := by omega
  have a1 : (a : Int) ≤ 100000 := by omega
  have b1 : (b : Int) ≤ 100000 := by omega
  have a0 : (0 : Int) ≤ a := by omega
  have b0 : (0 : Int) ≤ b := by omega
  have C := Lib.hid c; have E1 := Lib.hid e1; have E2 := Lib.hid e2; have E3 := Lib.hid e3; clear c e1 e2 e3 hk ha hb
  go_enter Tryd.func53, Tryd.ntmps53
  go_wp2_with (go_at_call 72; refine (C.out _ _).mono ?_; rintro e w' ⟨rfl, rfl⟩)
  go_ret
  exact ⟨ret_int (by rw [E1.out, E2.out, E3.out]), rfl⟩
theorem length_any (n : Nat) (hn : n ≤ 100000) (w : World) : Calls Tryd.prog 50 #[.int .i64 (n : Int)] w fun e w' => e = .returned (.int .i64 ((lenW n : Nat) : Int)) ∧ w = w' := by
  have n1 : (n : Int) ≤ 100000 := by omega
  have e : ((n : Int) + 64 - 1) / 64 = ((lenW n : Nat) : Int) := by unfold lenW; omega
  have E := Lib.hid e; clear e hn
  go_enter Tryd.func50, Tryd.ntmps50
  go_wp2_with fail
  go_ret
  exact ⟨ret_int (by first | exact E.out | (rw [← E.out]; go_goals)), rfl⟩
end Go.Proofs.YtocgdibadcmnfaaDoor
