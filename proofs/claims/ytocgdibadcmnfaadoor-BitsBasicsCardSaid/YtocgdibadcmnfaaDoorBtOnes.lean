/- bits: the ones of a word. -/
import Derived.Test.YtocgdibadcmnfaaDoorBtBase
import Derived.Laws.BitsLemmas
namespace Go.Proofs.YtocgdibadcmnfaaDoor
open Go.RowKit

theorem ofInt_i64 (a : Nat) (ha : a < 9223372036854775808) : (BitVec.ofInt 64 (a : Int)).toNat = a := by
  rw [BitVec.ofInt_natCast, BitVec.toNat_ofNat]; exact Nat.mod_eq_of_lt (by omega)
theorem i64_and_nat (a b : Nat) (ha : a < 9223372036854775808) (hb : b < 9223372036854775808) : bits .and .i64 (a : Int) (b : Int) = ((a &&& b : Nat) : Int) := by
  have hx : a &&& b < 2 ^ 63 := Nat.and_lt_two_pow _ (by omega)
  show IntKind.i64.wrap ((BitVec.ofInt 64 (a : Int) &&& BitVec.ofInt 64 (b : Int)).toNat : Int) = _
  rw [BitVec.toNat_and, ofInt_i64 a ha, ofInt_i64 b hb, IntKind.wrap_i64]
  omega
theorem u64_nat (a : Nat) (h : a < 18446744073709551616) : IntKind.u64.wrap (a : Int) = (a : Int) := by rw [IntKind.wrap_u64]; omega
theorem and_div (x M d : Nat) (hx : x < 18446744073709551616) (hM : M < 18446744073709551616) : bits .and .u64 ((x : Int) / (d : Int)) (M : Int) = ((x / d &&& M : Nat) : Int) := by
  rw [show (x : Int) / (d : Int) = ((x / d : Nat) : Int) by simp]
  exact u64_and_nat _ _ (Nat.lt_of_le_of_lt (Nat.div_le_self _ _) hx) hM
theorem u64_add (a b c : Nat) (h : a + b = c) (hc : c < 18446744073709551616) : IntKind.u64.wrap ((a : Int) + (b : Int)) = (c : Int) := by
  rw [show (a : Int) + (b : Int) = (c : Int) by omega]; exact u64_nat c hc
set_option maxRecDepth 100000 in
theorem pop_value (x : Nat) (hx : x < 18446744073709551616) : ∃ y1 y2 y3 a b c : Nat,
    IntKind.u64.wrap (bits .and .u64 ((x : Int) / 2) 6148914691236517205 + bits .and .u64 (x : Int) 6148914691236517205) = y1 ∧
    IntKind.u64.wrap (bits .and .u64 ((y1 : Int) / 4) 3689348814741910323 + bits .and .u64 (y1 : Int) 3689348814741910323) = y2 ∧
    bits .and .u64 (IntKind.u64.wrap ((y2 : Int) / 16 + y2)) 1085102592571150095 = y3 ∧
    IntKind.u64.wrap ((y3 : Int) + (y3 : Int) / 256) = a ∧ IntKind.u64.wrap ((a : Int) + (a : Int) / 65536) = b ∧ IntKind.u64.wrap ((b : Int) + (b : Int) / 4294967296) = c ∧
    wrap64 (c : Int) = c ∧ bits .and .i64 (c : Int) 127 = ((cnt x.testBit 64 : Nat) : Int) := by
  have h5 : m5 8 = 6148914691236517205 := rfl
  have h3 : m3 8 = 3689348814741910323 := rfl
  have hf : mf 8 = 1085102592571150095 := rfl
  have l1 : ∀ y, s1 8 y < 18446744073709551616 := fun y => by
    have a1 : y / 2 &&& m5 8 < 2 ^ 63 := Nat.and_lt_two_pow _ (by rw [h5]; omega)
    have a2 : y &&& m5 8 < 2 ^ 63 := Nat.and_lt_two_pow _ (by rw [h5]; omega)
    unfold s1; omega
  have l2 : ∀ y, s2 8 y < 9223372036854775808 := fun y => by
    have a1 : y / 4 &&& m3 8 < 2 ^ 62 := Nat.and_lt_two_pow _ (by rw [h3]; omega)
    have a2 : y &&& m3 8 < 2 ^ 62 := Nat.and_lt_two_pow _ (by rw [h3]; omega)
    unfold s2; omega
  obtain ⟨y, hy⟩ : ∃ y, y = s3 8 (s2 8 (s1 8 x)) := ⟨_, rfl⟩
  obtain ⟨a, ea⟩ : ∃ a, a = y + y / 256 := ⟨_, rfl⟩
  obtain ⟨b, eb⟩ : ∃ b, b = a + a / 65536 := ⟨_, rfl⟩
  obtain ⟨c, ec⟩ : ∃ c, c = b + b / 4294967296 := ⟨_, rfl⟩
  obtain ⟨hc, ha, hb, hd⟩ := pop_end x y hy a b c ea eb ec
  refine ⟨s1 8 x, s2 8 (s1 8 x), y, a, b, c, ?_, ?_, ?_, ?_, ?_, ?_, ?_, ?_⟩
  rotate_left 3
  · exact u64_add y (y / 256) a ea.symm (by omega)
  · exact u64_add a (a / 65536) b eb.symm (by omega)
  · exact u64_add b (b / 4294967296) c ec.symm (by omega)
  · exact IntWalk.wrap64_in _ (by omega)
  · have e := i64_and_nat _ 127 (Nat.lt_of_lt_of_le hd (by decide)) (by decide)
    rw [Nat.and_two_pow_sub_one_eq_mod _ 7] at e
    rw [← hc]; exact e
  · have e1 := and_div x 6148914691236517205 2 hx (by decide)
    have e2 := u64_and_nat x 6148914691236517205 hx (by decide)
    rw [← h5] at e1 e2
    have h5' : (6148914691236517205 : Int) = ((m5 8 : Nat) : Int) := rfl
    have e1' : bits .and .u64 ((x : Int) / 2) 6148914691236517205 = ((x / 2 &&& m5 8 : Nat) : Int) := e1
    have e2' : bits .and .u64 (x : Int) 6148914691236517205 = ((x &&& m5 8 : Nat) : Int) := e2
    rw [e1', e2']
    exact u64_add _ _ _ rfl (l1 x)
  · have e1' : bits .and .u64 ((s1 8 x : Nat) / 4 : Int) 3689348814741910323 = ((s1 8 x / 4 &&& m3 8 : Nat) : Int) := and_div (s1 8 x) 3689348814741910323 4 (l1 x) (by decide)
    have e2' : bits .and .u64 ((s1 8 x : Nat) : Int) 3689348814741910323 = ((s1 8 x &&& m3 8 : Nat) : Int) := u64_and_nat (s1 8 x) 3689348814741910323 (l1 x) (by decide)
    rw [e1', e2']
    exact u64_add _ _ _ rfl (by have := l2 (s1 8 x); omega)
  · have hl := l2 (s1 8 x)
    have e0 : IntKind.u64.wrap (((s2 8 (s1 8 x) : Nat) : Int) / 16 + ((s2 8 (s1 8 x) : Nat) : Int)) = ((s2 8 (s1 8 x) / 16 + s2 8 (s1 8 x) : Nat) : Int) := u64_add (s2 8 (s1 8 x) / 16) _ _ rfl (by omega)
    rw [e0, hy]
    exact u64_and_nat _ 1085102592571150095 (by omega) (by decide)

set_option maxRecDepth 100000 in
theorem pop_any (x : Nat) (hx : x < 18446744073709551616) (w : World) : Calls Tryd.prog 58 #[.int .u64 (x : Int)] w fun e w' => e = .returned (.int .i64 ((cnt x.testBit 64 : Nat) : Int)) ∧ w = w' := by
  obtain ⟨y1, y2, y3, a, b, c, h1, h2, h3, h4, h5, h6, h7, h8⟩ := pop_value x hx
  have H1 := Lib.hid h1; have H2 := Lib.hid h2; have H3 := Lib.hid h3; have H4 := Lib.hid h4; have H5 := Lib.hid h5; have H6 := Lib.hid h6; have H7 := Lib.hid h7; have H8 := Lib.hid h8
  clear h1 h2 h3 h4 h5 h6 h7 h8 hx
  go_enter Tryd.func58, Tryd.ntmps58
  go_wp2_with fail
  go_ret
  refine ⟨ret_int ?_, rfl⟩
  simp only [H1.out, H2.out, H3.out, H4.out, H5.out, H6.out, H7.out, H8.out]
end Go.Proofs.YtocgdibadcmnfaaDoor
