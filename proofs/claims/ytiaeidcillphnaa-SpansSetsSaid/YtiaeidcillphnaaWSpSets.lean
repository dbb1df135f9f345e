/- The law SpansSets, walked. -/
import Derived.Test.YtiaeidcillphnaaSpAwake
import Derived.Test.YtiaeidcillphnaaSpComb2
namespace Go.Proofs.Ytiaeidcillphnaa
open Go.RowKit

theorem joinedR_ok (P : Nat → Bool) (e : Int) : Okay (joinedR P e).1 ∧ (joinedR P e).1.length ≤ 100000 := by
  unfold joinedR
  by_cases h : e ≠ 0
  · rw [if_pos h]
    exact ⟨(fun x hx => by cases hx), Nat.zero_le _⟩
  · rw [if_neg h]
    have h1 := setF_ok P 1024
    have h2 : (setF P 1024).length ≤ 100000 := by have := h1.2.2; omega
    generalize setF P 1024 = s at h1 h2 ⊢
    exact ⟨fun x hx => h1.1.run x hx, h2⟩
theorem unionR_ok (a b : List (Int × Int)) : Okay (unionR a b).1 ∧ (unionR a b).1.length ≤ 100000 := joinedR_ok _ _
theorem meetR_ok (a b : List (Int × Int)) : Okay (meetR a b).1 ∧ (meetR a b).1.length ≤ 100000 := joinedR_ok _ _
theorem minusR_ok (a b : List (Int × Int)) : Okay (minusR a b).1 ∧ (minusR a b).1.length ≤ 100000 := joinedR_ok _ _
theorem notR_ok (a : List (Int × Int)) (x : Int × Int) : Okay (notR a x).1 ∧ (notR a x).1.length ≤ 100000 := joinedR_ok _ _
set_option maxHeartbeats 8000000 in
set_option maxRecDepth 100000 in
theorem spansSets_walk (a b : List (Int × Int)) (p q : Option Addr) (c d : Nat) (x y : Int) (w : World) (h : SpsAt w p a) (h' : SpsAt w q b) (hf : Fits (x, y)) :
    Calls Try.prog 4 #[.slice p a.length c, .slice q b.length d, .agg #[.int .i64 x, .int .i64 y]] w (TruePost w) := by
  have CL := Lib.hid (fun W => long_any a.length p c W); have CL2 := Lib.hid (fun W => long_any b.length q d W); have CA := Lib.hid (fun W => awake_any W)
  by_cases h1 : 2100 < a.length ∨ 2100 < b.length
  · rcases Nat.lt_or_ge 2100 a.length with ha | ha
    · have i1 : (2100 : Int) < a.length := by omega
      clear h h' h1
      go_enter Try.func4, Try.ntmps4
      go_wp2_with fail
      refine (CL.out _).mono ?_
      rintro e w1 ⟨rfl, rfl⟩
      go_wp2_with fail
      refine (CA.out _).mono ?_
      rintro e w2 ⟨rfl, hb⟩
      have HB := Lib.hid hb
      clear hb
      go_wp2_with fail
      go_ret
      exact ⟨rfl, by first | exact HB.out | exact boxB HB.out⟩
    · have i1 : ¬ (2100 : Int) < a.length := by omega
      have i2 : (2100 : Int) < b.length := by omega
      clear h h' h1
      go_enter Try.func4, Try.ntmps4
      go_wp2_with fail
      refine (CL.out _).mono ?_
      rintro e w1 ⟨rfl, rfl⟩
      go_wp2_with fail
      refine (CL2.out _).mono ?_
      rintro e w1 ⟨rfl, rfl⟩
      go_wp2_with fail
      refine (CA.out _).mono ?_
      rintro e w2 ⟨rfl, hb⟩
      have HB := Lib.hid hb
      clear hb
      go_wp2_with fail
      go_ret
      exact ⟨rfl, by first | exact HB.out | exact boxB HB.out⟩
  · have i1 : ¬ (2100 : Int) < a.length := by omega
    have i2 : ¬ (2100 : Int) < b.length := by omega
    have p1 := fun W (hW : Below w.heap.size w W) => union_any a b p q c d W (h.below hW) (h'.below hW)
    have r1 := fun W (hW : Below w.heap.size w W) => rUnion_any a b p q c d W (h.below hW) (h'.below hW)
    have k1 := unionR_ok a b
    have p2 := fun W (hW : Below w.heap.size w W) => meet_any a b p q c d W (h.below hW) (h'.below hW)
    have r2 := fun W (hW : Below w.heap.size w W) => rMeet_any a b p q c d W (h.below hW) (h'.below hW)
    have k2 := meetR_ok a b
    have p3 := fun W (hW : Below w.heap.size w W) => minus_any a b p q c d W (h.below hW) (h'.below hW)
    have r3 := fun W (hW : Below w.heap.size w W) => rMinus_any a b p q c d W (h.below hW) (h'.below hW)
    have k3 := minusR_ok a b
    have p4 := fun W (hW : Below w.heap.size w W) => not_any a p c x y W (h.below hW) hf
    have r4 := fun W (hW : Below w.heap.size w W) => rNot_any a p c x y W (h.below hW) hf
    have k4 := notR_ok a (x, y)
    unfold SpsErr at p1 r1
    generalize unionR a b = u1 at p1 r1 k1
    obtain ⟨s1, e1⟩ := u1
    simp only at p1 r1 k1
    obtain ⟨o1, l1⟩ := k1
    have P1 := Lib.hid p1; have R1 := Lib.hid r1; have O1 := Lib.hid o1
    have t1 : (e1 != e1) = false := by simp
    have t1' : (e1 == e1) = true := beq_self_eq_true _
    clear p1 r1 o1
    unfold SpsErr at p2 r2
    generalize meetR a b = u2 at p2 r2 k2
    obtain ⟨s2, e2⟩ := u2
    simp only at p2 r2 k2
    obtain ⟨o2, l2⟩ := k2
    have P2 := Lib.hid p2; have R2 := Lib.hid r2; have O2 := Lib.hid o2
    have t2 : (e2 != e2) = false := by simp
    have t2' : (e2 == e2) = true := beq_self_eq_true _
    clear p2 r2 o2
    unfold SpsErr at p3 r3
    generalize minusR a b = u3 at p3 r3 k3
    obtain ⟨s3, e3⟩ := u3
    simp only at p3 r3 k3
    obtain ⟨o3, l3⟩ := k3
    have P3 := Lib.hid p3; have R3 := Lib.hid r3; have O3 := Lib.hid o3
    have t3 : (e3 != e3) = false := by simp
    have t3' : (e3 == e3) = true := beq_self_eq_true _
    clear p3 r3 o3
    unfold SpsErr at p4 r4
    generalize notR a (x, y) = u4 at p4 r4 k4
    obtain ⟨s4, e4⟩ := u4
    simp only at p4 r4 k4
    obtain ⟨o4, l4⟩ := k4
    have P4 := Lib.hid p4; have R4 := Lib.hid r4; have O4 := Lib.hid o4
    have t4 : (e4 != e4) = false := by simp
    have t4' : (e4 == e4) = true := beq_self_eq_true _
    clear p4 r4 o4
    clear h h' h1
    go_enter Try.func4, Try.ntmps4
    have HB := Lib.hid (show Below w.heap.size w (w.alloc (.cells #[.int .i64 x, .int .i64 y] 31)) from (Below.refl _ _).alloc (Nat.le_refl _) _)
    have HBX := Lib.hid (heap_alloc_new w (.cells #[.int .i64 x, .int .i64 y] 31))
    go_wp2_with fail
    refine (CL.out _).mono ?_
    rintro e w0 ⟨rfl, rfl⟩
    go_wp2_with fail
    refine (CL2.out _).mono ?_
    rintro e w0 ⟨rfl, rfl⟩
    go_wp2_with fail
    refine (P1.out _ HB.out).mono ?_
    rintro e v1 ⟨v, rfl, hb, ho⟩
    obtain ⟨q1, c1, rfl, hs⟩ := own_sps ho O1.out l1
    have HB := Lib.hid (below_next HB.out hb)
    have HBX := Lib.hid ((hb.block _ (Array.getElem?_eq_some_iff.1 HBX.out).1).trans HBX.out)
    have HX1 := Lib.hid hs
    clear hb ho hs
    go_wp2_with fail
    refine (R1.out _ HB.out).mono ?_
    rintro e v2 ⟨v, rfl, hb, ho⟩
    obtain ⟨q2, c2, rfl, hs⟩ := own_sps ho O1.out l1
    have HB := Lib.hid (below_next HB.out hb)
    have HBX := Lib.hid ((hb.block _ (Array.getElem?_eq_some_iff.1 HBX.out).1).trans HBX.out)
    have HX1 := Lib.hid (HX1.out.below hb)
    have HY1 := Lib.hid hs
    clear hb ho hs
    go_wp2_with fail
    refine (c_same s1 s1.length rfl _ _ _ _ _ HX1.out HY1.out).mono ?_
    rintro e v3 ⟨rfl, hb⟩
    have HB := Lib.hid (below_next HB.out hb)
    have HBX := Lib.hid ((hb.block _ (Array.getElem?_eq_some_iff.1 HBX.out).1).trans HBX.out)
    clear hb HX1 HY1
    go_wp2_with fail
    refine (P2.out _ HB.out).mono ?_
    rintro e v4 ⟨v, rfl, hb, ho⟩
    obtain ⟨q4, c4, rfl, hs⟩ := own_sps ho O2.out l2
    have HB := Lib.hid (below_next HB.out hb)
    have HBX := Lib.hid ((hb.block _ (Array.getElem?_eq_some_iff.1 HBX.out).1).trans HBX.out)
    have HX2 := Lib.hid hs
    clear hb ho hs
    go_wp2_with fail
    refine (R2.out _ HB.out).mono ?_
    rintro e v5 ⟨v, rfl, hb, ho⟩
    obtain ⟨q5, c5, rfl, hs⟩ := own_sps ho O2.out l2
    have HB := Lib.hid (below_next HB.out hb)
    have HBX := Lib.hid ((hb.block _ (Array.getElem?_eq_some_iff.1 HBX.out).1).trans HBX.out)
    have HX2 := Lib.hid (HX2.out.below hb)
    have HY2 := Lib.hid hs
    clear hb ho hs
    go_wp2_with fail
    refine (c_same s2 s2.length rfl _ _ _ _ _ HX2.out HY2.out).mono ?_
    rintro e v6 ⟨rfl, hb⟩
    have HB := Lib.hid (below_next HB.out hb)
    have HBX := Lib.hid ((hb.block _ (Array.getElem?_eq_some_iff.1 HBX.out).1).trans HBX.out)
    clear hb HX2 HY2
    go_wp2_with fail
    refine (P3.out _ HB.out).mono ?_
    rintro e v7 ⟨v, rfl, hb, ho⟩
    obtain ⟨q7, c7, rfl, hs⟩ := own_sps ho O3.out l3
    have HB := Lib.hid (below_next HB.out hb)
    have HBX := Lib.hid ((hb.block _ (Array.getElem?_eq_some_iff.1 HBX.out).1).trans HBX.out)
    have HX3 := Lib.hid hs
    clear hb ho hs
    go_wp2_with fail
    refine (R3.out _ HB.out).mono ?_
    rintro e v8 ⟨v, rfl, hb, ho⟩
    obtain ⟨q8, c8, rfl, hs⟩ := own_sps ho O3.out l3
    have HB := Lib.hid (below_next HB.out hb)
    have HBX := Lib.hid ((hb.block _ (Array.getElem?_eq_some_iff.1 HBX.out).1).trans HBX.out)
    have HX3 := Lib.hid (HX3.out.below hb)
    have HY3 := Lib.hid hs
    clear hb ho hs
    have q0 := row_cell (i := 0) (v := .int .i64 x) HBX.out rfl
    have q1 := row_cell (i := 1) (v := .int .i64 y) HBX.out rfl
    go_wp2_with fail
    refine (P4.out _ HB.out).mono ?_
    rintro e v9 ⟨v, rfl, hb, ho⟩
    obtain ⟨q9, c9, rfl, hs⟩ := own_sps ho O4.out l4
    have HB := Lib.hid (below_next HB.out hb)
    have HBX := Lib.hid ((hb.block _ (Array.getElem?_eq_some_iff.1 HBX.out).1).trans HBX.out)
    clear q0 q1
    have HX3 := Lib.hid (HX3.out.below hb)
    have HY3 := Lib.hid (HY3.out.below hb)
    have HX4 := Lib.hid hs
    clear hb ho hs
    have q0 := row_cell (i := 0) (v := .int .i64 x) HBX.out rfl
    have q1 := row_cell (i := 1) (v := .int .i64 y) HBX.out rfl
    go_wp2_with fail
    refine (R4.out _ HB.out).mono ?_
    rintro e v10 ⟨v, rfl, hb, ho⟩
    obtain ⟨q10, c10, rfl, hs⟩ := own_sps ho O4.out l4
    have HB := Lib.hid (below_next HB.out hb)
    have HBX := Lib.hid ((hb.block _ (Array.getElem?_eq_some_iff.1 HBX.out).1).trans HBX.out)
    clear q0 q1
    have HX3 := Lib.hid (HX3.out.below hb)
    have HY3 := Lib.hid (HY3.out.below hb)
    have HX4 := Lib.hid (HX4.out.below hb)
    have HY4 := Lib.hid hs
    clear hb ho hs
    go_wp2_with fail
    refine (c_same s3 s3.length rfl _ _ _ _ _ HX3.out HY3.out).mono ?_
    rintro e v11 ⟨rfl, hb⟩
    have HB := Lib.hid (below_next HB.out hb)
    have HBX := Lib.hid ((hb.block _ (Array.getElem?_eq_some_iff.1 HBX.out).1).trans HBX.out)
    have HX4 := Lib.hid (HX4.out.below hb)
    have HY4 := Lib.hid (HY4.out.below hb)
    clear hb HX3 HY3
    go_wp2_with fail
    refine (c_same s4 s4.length rfl _ _ _ _ _ HX4.out HY4.out).mono ?_
    rintro e v12 ⟨rfl, hb⟩
    have HB := Lib.hid (below_next HB.out hb)
    have HBX := Lib.hid ((hb.block _ (Array.getElem?_eq_some_iff.1 HBX.out).1).trans HBX.out)
    clear hb HX4 HY4
    go_wp2_with fail
    refine (CA.out _).mono ?_
    rintro e w2 ⟨rfl, hb⟩
    have HB := Lib.hid (below_next HB.out hb)
    clear hb
    go_wp2_with fail
    go_ret
    exact ⟨rfl, HB.out⟩
end Go.Proofs.Ytiaeidcillphnaa
