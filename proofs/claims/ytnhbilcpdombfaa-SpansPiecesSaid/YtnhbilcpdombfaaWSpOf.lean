/- The law SpansOf, walked. -/
import Derived.Test.YtnhbilcpdombfaaSpAwake
namespace Go.Proofs.Ytnhbilcpdombfaa
open Go.RowKit

theorem set_check_ok {s : List (Nat × Nat)} (h : IsSet 1024 s) (hl : s.length ≤ 512) : checkR (up s) = 0 := by
  have hv : (up s).all validR = true := by
    rw [List.all_eq_true]
    intro x hx
    obtain ⟨y, hy, rfl⟩ := List.mem_map.1 hx
    have := h.run y hy
    rw [validR_iff]; simp only; omega
  have h1 : listR (up s) 512 = 0 := by
    unfold listR
    rw [if_neg (by rw [up_len]; omega), hv]; rfl
  have h2 : gapsR (up s) (up s).length = true := by
    unfold gapsR
    rw [List.all_eq_true]
    intro i hi
    have hi' : i < s.length := by have := List.mem_range.1 hi; rwa [up_len] at this
    cases i with
    | zero => simp
    | succ i =>
      have hp := List.pairwise_iff_getElem.1 h.gap i (i + 1) (by omega) hi' (by omega)
      rw [Nat.add_sub_cancel, List.getElem?_eq_getElem (by rw [up_len]; omega), List.getElem?_eq_getElem (by rw [up_len]; omega), Option.getD_some, Option.getD_some, up_get, up_get]
      simp only
      have : decide (((s[i]'(by omega)).1 : Int) + ((s[i]'(by omega)).2 : Int) < ((s[i + 1]'hi').1 : Int)) = true := decide_eq_true (by omega)
      rw [this]; simp
  unfold checkR
  rw [h1, h2]; rfl
theorem ofR_ok (l : List (Int × Int)) : Okay (ofR l).1 ∧ (ofR l).1.length ≤ 512 ∧ ((ofR l).2 = 0 → checkR (up (ofR l).1) = 0) := by
  unfold ofR
  by_cases h : listR l 2000 ≠ 0
  · rw [if_pos h]
    exact ⟨(fun x hx => by cases hx), Nat.zero_le _, fun h0 => absurd h0 h⟩
  · rw [if_neg h]
    have h1 := setF_ok (inS (down l)) 1024
    have h2 : (setF (inS (down l)) 1024).length ≤ 512 := by have := h1.2.2; omega
    generalize setF (inS (down l)) 1024 = s at h1 h2 ⊢
    exact ⟨fun x hx => h1.1.run x hx, h2, fun _ => set_check_ok h1.1 h2⟩
set_option maxHeartbeats 4000000 in
set_option maxRecDepth 100000 in
theorem spansOf_walk (l : List (Int × Int)) (p : Option Addr) (cap : Nat) (w : World) (h : SpsAt w p l) :
    Calls Try.prog 3 #[.slice p l.length cap] w (TruePost w) := by
  have cl := fun W => long_any l.length p cap W
  have ca := fun W => awake_any W
  have CL := Lib.hid cl; have CA := Lib.hid ca; have HP := Lib.hid h
  clear cl ca
  by_cases h1 : 2100 < l.length
  · have i1 : (2100 : Int) < l.length := by omega
    clear h
    go_enter Try.func3, Try.ntmps3
    go_wp2_with fail
    refine (CL.out _).mono ?_
    rintro e w1 ⟨rfl, rfl⟩
    go_wp2_with fail
    refine (CA.out _).mono ?_
    rintro e w2 ⟨rfl, hb⟩
    have HB := Lib.hid hb
    clear hb
    go_wp2_with fail
    go_ret
    exact ⟨rfl, HB.out⟩
  · have i1 : ¬ (2100 : Int) < l.length := by omega
    obtain ⟨hok, hlen, hch⟩ := ofR_ok l
    have c1 := fun W hW => of_any l p cap W (h.below (w' := W) hW)
    have c2 := fun W hW => rof_any l p cap W (h.below (w' := W) hW)
    have c3 := fun W hW => check_any l p cap W (h.below (w' := W) hW)
    have c4 := fun W hW => rcheck_any l p cap W (h.below (w' := W) hW)
    unfold SpsErr at c1 c2
    unfold ErrPost at c3 c4
    generalize ofR l = r at hok hlen hch c1 c2
    obtain ⟨s, c⟩ := r
    simp only at hok hlen hch c1 c2
    generalize checkR l = k at c3 c4
    have HOK := Lib.hid hok; have HCH := Lib.hid hch; have C1 := Lib.hid c1; have C2 := Lib.hid c2; have C3 := Lib.hid c3; have C4 := Lib.hid c4
    have l5 : s.length ≤ 100000 := by omega
    clear h hok hch c1 c2 c3 c4
    go_enter Try.func3, Try.ntmps3
    go_wp2_with fail
    refine (CL.out _).mono ?_
    rintro e w1 ⟨rfl, rfl⟩
    go_wp2_with fail
    refine (C1.out _ (Below.refl _ _)).mono ?_
    rintro e w1 ⟨v, rfl, hb, ho⟩
    obtain ⟨qa, ca, rfl, hs⟩ := own_sps ho HOK.out l5
    have HB1 := Lib.hid hb; have HA := Lib.hid hs
    clear hb ho hs
    go_wp2_with fail
    refine (C2.out _ HB1.out).mono ?_
    rintro e w2 ⟨v, rfl, hb, ho⟩
    obtain ⟨qb, cb, rfl, hs⟩ := own_sps ho HOK.out l5
    have HB2 := Lib.hid (below_next HB1.out hb); have HA2 := Lib.hid (HA.out.below hb); have HD := Lib.hid hs
    clear hb ho hs HA
    go_wp2_with fail
    refine (C3.out _ HB2.out).mono ?_
    rintro e w3 ⟨rfl, hb⟩
    have HB3 := Lib.hid (below_next HB2.out hb); have HA3 := Lib.hid (HA2.out.below hb); have HD3 := Lib.hid (HD.out.below hb)
    clear hb HA2 HD
    go_wp2_with fail
    refine (C4.out _ HB3.out).mono ?_
    rintro e w4 ⟨rfl, hb⟩
    have HB4 := Lib.hid (below_next HB3.out hb); have HA4 := Lib.hid (HA3.out.below hb); have HD4 := Lib.hid (HD3.out.below hb)
    clear hb HA3 HD3
    have t0 : (k == k) = true := beq_self_eq_true k
    have t0' : (c == c) = true := beq_self_eq_true c
    have CS := Lib.hid (c_same s s.length rfl qa qb ca cb w4 HA4.out HD4.out)
    by_cases hc : c = 0
    · subst hc
      have ck := fun W hW => check_any (up s) qa ca W (HA4.out.below (w' := W) hW)
      rw [HCH.out rfl, up_len] at ck
      unfold ErrPost at ck
      have CK := Lib.hid ck
      clear ck
      go_wp2_with fail
      refine CS.out.mono ?_
      rintro e w5 ⟨rfl, hb⟩
      have HB5 := Lib.hid (below_next HB4.out hb)
      have HK5 := Lib.hid hb
      clear hb
      go_wp2_with fail
      refine (CK.out _ HK5.out).mono ?_
      rintro e w6 ⟨rfl, hb⟩
      have HB6 := Lib.hid (below_next HB5.out hb)
      clear hb
      go_wp2_with fail
      refine (CA.out _).mono ?_
      rintro e w7 ⟨rfl, hb⟩
      have HB7 := Lib.hid (below_next HB6.out hb)
      clear hb
      go_wp2_with fail
      go_ret
      exact ⟨rfl, HB7.out⟩
    · obtain ⟨t1, t2⟩ := neq0 hc
      go_wp2_with fail
      refine CS.out.mono ?_
      rintro e w5 ⟨rfl, hb⟩
      have HB5 := Lib.hid (below_next HB4.out hb)
      clear hb
      go_wp2_with fail
      refine (CA.out _).mono ?_
      rintro e w7 ⟨rfl, hb⟩
      have HB7 := Lib.hid (below_next HB5.out hb)
      clear hb
      go_wp2_with fail
      go_ret
      exact ⟨rfl, HB7.out⟩
end Go.Proofs.Ytnhbilcpdombfaa
