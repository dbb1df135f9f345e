/- bits: the lowest and the highest one of a word. -/
import Derived.Test.YtocgdibadcmnfaaDoorBtOnes
import Derived.Test.YtocgdibadcmnfaaDoorBtFind
import Derived.Test.YtocgdibadcmnfaaDoorShelf
import Derived.Laws.Bits64b
import Derived.Lib.BitFns
namespace Go.Proofs.YtocgdibadcmnfaaDoor
open Go.RowKit

/-- What the walks need of the world: the library's table. -/
structure BEnv (w : World) : Prop where
  size : 0 < w.heap.size
  tab : ∀ j, j < Lib.deBruijn64tab.length → w.cell? ⟨0, j, none⟩ = some (.int .u8 ((Lib.deBruijn64tab.getD j 0 : Nat) : Int))
theorem BEnv.below {w w' : World} (h : BEnv w) (hb : Below w.heap.size w w') : BEnv w' :=
  ⟨Nat.lt_of_lt_of_le h.size hb.size, fun j hj => (hb.cell (p := ⟨0, j, none⟩) h.size).trans (h.tab j hj)⟩
theorem tz_key (x a : Nat) (hx : x < 18446744073709551616) (hx0 : x ≠ 0) (hlow : x &&& (18446744073709551616 - x) = a) :
    IntKind.u64.wrap (bits BinOp.and IntKind.u64 (x : Int) (IntKind.u64.wrap (-(x : Int))) * 285870213051353865) / 288230376151711744 = ((a * 285870213051353865 % 18446744073709551616 / 288230376151711744 : Nat) : Int) := by
  have e1 : IntKind.u64.wrap (-(x : Int)) = ((18446744073709551616 - x : Nat) : Int) := by rw [IntKind.wrap_u64]; omega
  rw [e1, bits_and_u64_nat x _ hx (by omega), hlow, IntKind.wrap_u64]
  omega
set_option maxRecDepth 100000 in
theorem ctz_core (x k idx : Nat) (w : World) (hx0 : ((x : Int) == 0) = false)
    (key : IntKind.u64.wrap (bits BinOp.and IntKind.u64 (x : Int) (IntKind.u64.wrap (-(x : Int))) * 285870213051353865) / 288230376151711744 = (idx : Int))
    (hi : idx < 64) (hk : k < 64) (hcell : w.cell? ⟨0, idx, none⟩ = some (.int .u8 (k : Int))) :
    Calls Tryd.prog 60 #[.int .u64 (x : Int)] w fun e w' => e = .returned (.int .i64 (k : Int)) ∧ w = w' := by
  have i1 : (idx : Int) < 64 := by omega
  have i2 : (0 : Int) ≤ idx := by omega
  have k1 : (k : Int) < 64 := by omega
  clear hi hk
  go_enter Tryd.func60, Tryd.ntmps60
  go_wp2_with fail
  go_ret
  exact ⟨ret_int (by first | rfl | exact IntWalk.i64_in _ (by omega)), rfl⟩
theorem ctz_any (x : Nat) (hx : x < 18446744073709551616) (h0 : x ≠ 0) (w : World) (he : BEnv w) : Calls Tryd.prog 60 #[.int .u64 (x : Int)] w fun e w' => e = .returned (.int .i64 ((Lib.ctz 64 x : Nat) : Int)) ∧ w = w' := by
  obtain ⟨hlow, hk⟩ := Lib.lowest_bit 64 x h0 hx
  obtain ⟨hi, htab⟩ := Lib.deBruijn64_at _ hk
  have hcell := he.tab _ hi
  rw [htab] at hcell
  exact ctz_core x _ _ w (by simp; omega) (tz_key x _ hx h0 hlow) hi hk hcell
theorem aux_eq : ∀ (f x : Nat), x < 2 ^ f → Lib.bitLenAux f x = bitLen x
  | 0, x, h => by
    obtain rfl : x = 0 := by simpa using h
    rfl
  | f + 1, x, h => by
    rw [Lib.bitLenAux]
    by_cases h0 : x = 0
    · subst h0; rfl
    · rw [if_neg h0, aux_eq f (x / 2) (by rw [Nat.pow_succ] at h; omega)]
      by_cases h1 : x / 2 = 0
      · obtain rfl : x = 1 := by omega
        decide
      · have := bitLen_shift x 1 (by simpa using h1)
        simp only [Nat.pow_one] at this
        rw [this]
theorem len_any (x : Nat) (hx : x < 18446744073709551616) (w : World) : Calls Tryd.prog 63 #[.int .u64 (x : Int)] w fun e w' => e = .returned (.int .i64 ((bitLen x : Nat) : Int)) ∧ w = w' :=
  (Tryd.bits_Len64 (x : Int) w (by omega) (by omega)).mono fun _ _ ⟨h, hw⟩ => ⟨by rw [h, Int.toNat_natCast]; unfold Lib.bitLen; rw [aux_eq 64 x hx], hw.symm⟩
end Go.Proofs.YtocgdibadcmnfaaDoor
