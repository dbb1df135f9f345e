/- Spans: plain facts on places; checkPlace. -/
import Derived.Test.YtnhbilcpdombfaaSpROf
import Derived.Laws.BitsAllLaws
namespace Go.Proofs.Ytnhbilcpdombfaa
open Go.RowKit

theorem ofInt_64 (a : Nat) (h : a < 18446744073709551616) : (BitVec.ofInt 64 (a : Int)).toNat = a := by
  rw [BitVec.toNat_ofInt]
  have : ((a : Int) % (2 ^ 64 : Nat)) = (a : Int) := Int.emod_eq_of_lt (by omega) (by simpa using (by omega : (a : Int) < 18446744073709551616))
  rw [this, Int.toNat_natCast]
theorem i64_and_nat (a b : Nat) (ha : a < 4096) (hb : b < 4096) : bits .and .i64 (a : Int) (b : Int) = ((a &&& b : Nat) : Int) := by
  show IntKind.i64.wrap ((BitVec.ofInt 64 (a : Int) &&& BitVec.ofInt 64 (b : Int)).toNat : Int) = _
  rw [BitVec.toNat_and, ofInt_64 a (by omega), ofInt_64 b (by omega)]
  have := Nat.and_le_left (n := a) (m := b)
  exact IntWalk.i64_in _ (by omega)
theorem andNot_pow (x k : Nat) (hx : x < 4096) (hk : k ≤ 10) : x &&& (2 ^ 64 - 1 - (2 ^ k - 1)) = x / 2 ^ k * 2 ^ k := by
  apply Nat.eq_of_testBit_eq
  intro i
  have h1 : (2 ^ 64 - 1 - (2 ^ k - 1)).testBit i = (decide (i < 64) && !(decide (i < k))) := by
    have hlt : 2 ^ k - 1 < 2 ^ 64 := Nat.lt_of_le_of_lt (Nat.sub_le _ _) (Nat.pow_lt_pow_right (by omega) (by omega))
    have : 2 ^ 64 - 1 - (2 ^ k - 1) = 2 ^ 64 - (2 ^ k - 1 + 1) := by omega
    rw [this, Nat.testBit_two_pow_sub_succ hlt, Nat.testBit_two_pow_sub_one]
  rw [Nat.testBit_and, h1, Nat.mul_comm, Nat.testBit_two_pow_mul, Nat.testBit_div_two_pow]
  by_cases h2 : i < k
  · have : ¬ i ≥ k := by omega
    simp [h2, this]
  · have h3 : i ≥ k := by omega
    by_cases h4 : i < 64
    · simp [h2, h3, h4]
    · have h5 : x.testBit i = false := Nat.testBit_lt_two_pow (Nat.lt_of_lt_of_le hx (by
        have : 2 ^ 12 ≤ 2 ^ i := Nat.pow_le_pow_right (by omega) (by omega)
        simpa using this))
      have h6 : k + (i - k) = i := by omega
      simp [h4, h5, h6, h3]
theorem i64_andNot_pow (x k : Nat) (hx : x < 4096) (hk : k ≤ 10) : bits .andNot .i64 (x : Int) ((2 ^ k - 1 : Nat) : Int) = ((x / 2 ^ k * 2 ^ k : Nat) : Int) := by
  have hlt : 2 ^ k ≤ 1024 := by
    have : 2 ^ k ≤ 2 ^ 10 := Nat.pow_le_pow_right (by omega) hk
    simpa using this
  show IntKind.i64.wrap ((BitVec.ofInt 64 (x : Int) &&& ~~~BitVec.ofInt 64 ((2 ^ k - 1 : Nat) : Int)).toNat : Int) = _
  rw [BitVec.toNat_and, BitVec.toNat_not, ofInt_64 x (by omega), ofInt_64 (2 ^ k - 1) (by omega), andNot_pow x k hx hk]
  have := Nat.div_mul_le_self x (2 ^ k)
  exact IntWalk.i64_in _ (by omega)
/-- Is that an alignment? -/
def powN (a : Nat) : Bool := (List.range 11).any fun k => a == 2 ^ k
theorem powN_and : ∀ a, a < 1025 → 1 ≤ a → (a &&& (a - 1) == 0) = powN a := by
  have h : (List.range 1025).all (fun a => a == 0 || (a &&& (a - 1) == 0) == powN a) = true := by decide +kernel
  intro a ha h1
  have := List.all_eq_true.1 h a (List.mem_range.2 ha)
  have h0 : (a == 0) = false := by simp; omega
  rw [h0, Bool.false_or, beq_iff_eq] at this
  exact this
theorem powN_some {a : Nat} (h : powN a = true) : ∃ k, k ≤ 10 ∧ a = 2 ^ k := by
  obtain ⟨k, hk, e⟩ := List.any_eq_true.1 h
  exact ⟨k, by have := List.mem_range.1 hk; omega, by simpa using e⟩
/-- What is wrong with the input of a search. -/
def placeE (s : List (Int × Int)) (pages align : Int) : Int :=
  if checkR s ≠ 0 then checkR s else if pages < 1 ∨ 1024 < pages then 2 else if align < 1 ∨ 1024 < align then 2 else if powN align.toNat then 0 else 2
theorem placeE_ok {s : List (Int × Int)} {pages align : Int} (h : placeE s pages align = 0) : checkR s = 0 ∧ 1 ≤ pages ∧ pages ≤ 1024 ∧ ∃ k, k ≤ 10 ∧ align = ((2 ^ k : Nat) : Int) := by
  unfold placeE at h
  by_cases h1 : checkR s ≠ 0
  · rw [if_pos h1] at h; exact absurd h h1
  · rw [if_neg h1] at h
    by_cases h2 : pages < 1 ∨ 1024 < pages
    · rw [if_pos h2] at h; cases h
    · rw [if_neg h2] at h
      by_cases h3 : align < 1 ∨ 1024 < align
      · rw [if_pos h3] at h; cases h
      · rw [if_neg h3] at h
        cases h4 : powN align.toNat
        · rw [h4] at h; cases h
        · obtain ⟨k, hk, e⟩ := powN_some h4
          exact ⟨Classical.not_not.1 h1, by omega, by omega, k, hk, by omega⟩
set_option maxHeartbeats 2000000 in
set_option maxRecDepth 100000 in
theorem checkPlace_any (s : List (Int × Int)) (p : Option Addr) (cap : Nat) (pages align : Int) (w : World) (h : SpsAt w p s) :
    Calls Try.prog 62 #[.slice p s.length cap, .int .i64 pages, .int .i64 align] w (ErrPost (placeE s pages align) w) := by
  have ck := check_any s p cap w h
  have e : placeE s pages align = if checkR s ≠ 0 then checkR s else if pages < 1 ∨ 1024 < pages then 2 else if align < 1 ∨ 1024 < align then 2 else if powN align.toNat then 0 else 2 := rfl
  unfold ErrPost at ck
  generalize checkR s = c at ck e
  generalize placeE s pages align = r at e
  have CK := Lib.hid ck
  clear ck h
  by_cases hc : c ≠ 0
  · rw [if_pos hc] at e
    obtain ⟨t1, t2⟩ := neq0 hc
    have E := Lib.hid e
    clear e hc
    go_enter Try.func62, Try.ntmps62
    go_wp2_with fail
    refine CK.out.mono ?_
    rintro e w1 ⟨rfl, hb⟩
    have HB1 := Lib.hid hb
    clear hb
    go_wp2_with fail
    go_ret
    exact errPost_mk E.out HB1.out
  · obtain rfl : c = 0 := Classical.not_not.1 hc
    rw [if_neg hc] at e
    clear hc
    by_cases h1 : pages < 1
    · rw [if_pos (.inl h1)] at e
      have E := Lib.hid e
      clear e
      go_enter Try.func62, Try.ntmps62
      go_wp2_with fail
      refine CK.out.mono ?_
      rintro e w1 ⟨rfl, hb⟩
      have HB1 := Lib.hid hb
      clear hb
      go_wp2_with fail
      go_ret
      exact errPost_mk E.out HB1.out
    · by_cases h2 : 1024 < pages
      · rw [if_pos (.inr h2)] at e
        have E := Lib.hid e
        clear e
        go_enter Try.func62, Try.ntmps62
        go_wp2_with fail
        refine CK.out.mono ?_
        rintro e w1 ⟨rfl, hb⟩
        have HB1 := Lib.hid hb
        clear hb
        go_wp2_with fail
        go_ret
        exact errPost_mk E.out HB1.out
      · rw [if_neg (by omega)] at e
        by_cases h3 : align < 1
        · rw [if_pos (.inl h3)] at e
          have E := Lib.hid e
          clear e
          go_enter Try.func62, Try.ntmps62
          go_wp2_with fail
          refine CK.out.mono ?_
          rintro e w1 ⟨rfl, hb⟩
          have HB1 := Lib.hid hb
          clear hb
          go_wp2_with fail
          go_ret
          exact errPost_mk E.out HB1.out
        · by_cases h4 : 1024 < align
          · rw [if_pos (.inr h4)] at e
            have E := Lib.hid e
            clear e
            go_enter Try.func62, Try.ntmps62
            go_wp2_with fail
            refine CK.out.mono ?_
            rintro e w1 ⟨rfl, hb⟩
            have HB1 := Lib.hid hb
            clear hb
            go_wp2_with fail
            go_ret
            exact errPost_mk E.out HB1.out
          · rw [if_neg (by omega)] at e
            have e1 : IntKind.i64.wrap (align - 1) = align - 1 := IntWalk.i64_in _ (by omega)
            have hA : bits .and .i64 align (align - 1) = ((align.toNat &&& (align.toNat - 1) : Nat) : Int) := by
              have := i64_and_nat align.toNat (align.toNat - 1) (by omega) (by omega)
              rw [show ((align.toNat : Nat) : Int) = align by omega, show ((align.toNat - 1 : Nat) : Int) = align - 1 by omega] at this
              exact this
            have hp := powN_and align.toNat (by omega) (by omega)
            cases hpw : powN align.toNat
            · rw [hpw] at e hp
              have t1 : ((bits .and .i64 align (align - 1)) != 0) = true := by rw [hA, bne_iff_ne]; simp at hp; omega
              have E := Lib.hid e
              clear e hA hp hpw
              go_enter Try.func62, Try.ntmps62
              go_wp2_with fail
              refine CK.out.mono ?_
              rintro e w1 ⟨rfl, hb⟩
              have HB1 := Lib.hid hb
              clear hb
              go_wp2_with fail
              go_ret
              exact errPost_mk E.out HB1.out
            · rw [hpw] at e hp
              have t1 : ((bits .and .i64 align (align - 1)) != 0) = false := by rw [hA]; simp at hp; simp [hp]
              have E := Lib.hid e
              clear e hA hp hpw
              go_enter Try.func62, Try.ntmps62
              go_wp2_with fail
              refine CK.out.mono ?_
              rintro e w1 ⟨rfl, hb⟩
              have HB1 := Lib.hid hb
              clear hb
              go_wp2_with fail
              go_ret
              exact errPost_mk E.out HB1.out
end Go.Proofs.Ytnhbilcpdombfaa
