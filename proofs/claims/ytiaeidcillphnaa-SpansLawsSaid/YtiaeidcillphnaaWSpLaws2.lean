/- The law SpansLaws, walked, at any input. -/
import Derived.Test.YtiaeidcillphnaaWSpLaws
namespace Go.Proofs.Ytiaeidcillphnaa
open Go.RowKit

theorem setsE_long {a b : List (Int × Int)} (h : setsE a b = 0) : ∃ A B, a = up A ∧ b = up B ∧ Good A ∧ Good B := by
  obtain ⟨h1, h2⟩ := setsE_ok h
  obtain ⟨va, sa, la⟩ := check_set h1
  obtain ⟨vb, sb, lb⟩ := check_set h2
  exact ⟨down a, down b, (up_down va).symm, (up_down vb).symm, ⟨sa, by rw [down_len]; exact la⟩, ⟨sb, by rw [down_len]; exact lb⟩⟩
set_option maxHeartbeats 8000000 in
set_option maxRecDepth 100000 in
theorem spansLaws_walk (a b : List (Int × Int)) (p q : Option Addr) (c d : Nat) (n : Nat) (w : World) (h : SpsAt w p a) (h' : SpsAt w q b) (hn : n ≤ 65535) :
    Calls Try.prog 8 #[.slice p a.length c, .slice q b.length d, .int .u16 (n : Int)] w (TruePost w) := by
  have CA := Lib.hid (fun W => awake_any W)
  by_cases h1 : 600 < a.length
  · have i1 : (600 : Int) < a.length := by omega
    clear h h'
    go_enter Try.func8, Try.ntmps8
    go_wp2_with fail
    refine (CA.out _).mono ?_
    rintro e w2 ⟨rfl, hb⟩
    have HB := Lib.hid hb
    clear hb
    go_wp2_with fail
    go_ret
    exact ⟨rfl, by first | exact HB.out | exact boxB HB.out⟩
  · by_cases h2 : 600 < b.length
    · have i1 : ¬ (600 : Int) < a.length := by omega
      have i2 : (600 : Int) < b.length := by omega
      clear h h'
      go_enter Try.func8, Try.ntmps8
      go_wp2_with fail
      refine (CA.out _).mono ?_
      rintro e w2 ⟨rfl, hb⟩
      have HB := Lib.hid hb
      clear hb
      go_wp2_with fail
      go_ret
      exact ⟨rfl, by first | exact HB.out | exact boxB HB.out⟩
    · by_cases h3 : setsE a b = 0
      · obtain ⟨A, B, rfl, rfl, hA, hB⟩ := setsE_long h3
        have := laws_good A B hA hB p q c d n w h h' hn
        rw [up_len, up_len]; exact this
      · have i1 : ¬ (600 : Int) < a.length := by omega
        have i2 : ¬ (600 : Int) < b.length := by omega
        have hbe : Below w.heap.size w (w.alloc (.cells #[.int .i64 0, .int .i64 1024] 31)) := (Below.refl _ _).alloc (Nat.le_refl _) _
        have p1 := fun W (hW : Below w.heap.size w W) => union_any a b p q c d W (h.below hW) (h'.below hW)
        have p2 := fun W (hW : Below w.heap.size w W) => meet_any a b p q c d W (h.below hW) (h'.below hW)
        have p3 := fun W (hW : Below w.heap.size w W) => minus_any a b p q c d W (h.below hW) (h'.below hW)
        have e1 : unionR a b = ([], setsE a b) := by unfold unionR joinedR; rw [if_pos h3]
        have e2 : meetR a b = ([], setsE a b) := by unfold meetR joinedR; rw [if_pos h3]
        have e3 : minusR a b = ([], setsE a b) := by unfold minusR joinedR; rw [if_pos h3]
        rw [e1] at p1; rw [e2] at p2; rw [e3] at p3
        generalize setsE a b = k at p1 p2 p3 h3
        obtain ⟨t1, t2⟩ := neq0 h3
        have t3 : (k == k) = true := beq_self_eq_true k
        have P1 := Lib.hid p1; have P2 := Lib.hid p2; have P3 := Lib.hid p3; have HBE := Lib.hid hbe
        clear h h' e1 e2 e3 p1 p2 p3 h3 hbe
        go_enter Try.func8, Try.ntmps8
        go_wp2_with fail
        refine (P1.out _ HBE.out).mono ?_
        rintro e w1 ⟨v, rfl, hb, ho⟩
        obtain ⟨q1, c1, rfl, _⟩ := own_sps (s := []) ho (fun x hx => by cases hx) (Nat.zero_le _)
        have HB1 := Lib.hid (below_next HBE.out hb)
        clear hb ho
        go_wp2_with fail
        refine (P2.out _ HB1.out).mono ?_
        rintro e w2 ⟨v, rfl, hb, ho⟩
        obtain ⟨q2, c2, rfl, _⟩ := own_sps (s := []) ho (fun x hx => by cases hx) (Nat.zero_le _)
        have HB2 := Lib.hid (below_next HB1.out hb)
        clear hb ho
        go_wp2_with fail
        refine (P3.out _ HB2.out).mono ?_
        rintro e w3 ⟨v, rfl, hb, ho⟩
        obtain ⟨q3, c3, rfl, _⟩ := own_sps (s := []) ho (fun x hx => by cases hx) (Nat.zero_le _)
        have HB3 := Lib.hid (below_next HB2.out hb)
        clear hb ho
        go_wp2_with fail
        refine (CA.out _).mono ?_
        rintro e w4 ⟨rfl, hb⟩
        have HB4 := Lib.hid (below_next HB3.out hb)
        clear hb
        go_wp2_with fail
        go_ret
        exact ⟨rfl, HB4.out⟩
end Go.Proofs.Ytiaeidcillphnaa
