/- The reference of layer 3: Valid, Check, Same. -/
import Derived.Test.YtnhbilcpdombfaaSpCount
namespace Go.Proofs.Ytnhbilcpdombfaa
open Go.RowKit

set_option maxRecDepth 100000 in
theorem rvalid_any (a b : Int) (w : World) (hf : Fits (a, b)) : Calls Try.prog 49 #[.agg #[.int .i64 a, .int .i64 b]] w (BoolPost (validR (a, b)) w) := by
  obtain ⟨⟨h5, h6⟩, h1, h2⟩ := hf
  simp only at h1 h2 h5 h6
  by_cases h3 : 0 ≤ a
  · by_cases h7 : a < 1024
    · by_cases h4 : 1 ≤ b
      · have e1 : IntKind.i64.wrap (1024 - a) = 1024 - a := IntWalk.i64_in _ (by omega)
        have hv : validR (a, b) = decide (b ≤ 1024 - a) := by
          rw [Bool.eq_iff_iff, validR_iff, decide_eq_true_eq]; simp only; omega
        have HV := Lib.hid hv
        clear hv
        go_enter Try.func49, Try.ntmps49
        go_wp2_with fail
        go_ret
        exact boolPost_mk HV.out ((Below.refl _ _).alloc (Nat.le_refl _) _)
      · have hv : validR (a, b) = false := by unfold validR; simp [h4]
        have HV := Lib.hid hv
        clear hv
        go_enter Try.func49, Try.ntmps49
        go_wp2_with fail
        go_ret
        exact boolPost_mk HV.out ((Below.refl _ _).alloc (Nat.le_refl _) _)
    · have hv : validR (a, b) = false := by unfold validR; simp; omega
      have HV := Lib.hid hv
      clear hv
      go_enter Try.func49, Try.ntmps49
      go_wp2_with fail
      go_ret
      exact boolPost_mk HV.out ((Below.refl _ _).alloc (Nat.le_refl _) _)
  · have hv : validR (a, b) = false := by unfold validR; simp [h3]
    have HV := Lib.hid hv
    clear hv
    go_enter Try.func49, Try.ntmps49
    go_wp2_with fail
    go_ret
    exact boolPost_mk HV.out ((Below.refl _ _).alloc (Nat.le_refl _) _)
def TruePost (w : World) (e : Ending) (w' : World) : Prop := e = .returned (.bool true) ∧ Below w.heap.size w w'
set_option maxHeartbeats 1000000 in
set_option maxRecDepth 100000 in
theorem same_any (l : List (Int × Int)) (p q : Option Addr) (c d : Nat) (w : World) (hp : SpsAt w p l) (hq : SpsAt w q l) :
    Calls Try.prog 17 #[.slice p l.length c, .slice q l.length d] w (TruePost w) := by
  have hlm := hp.len
  unfold maxLen at hlm
  have HP := Lib.hid hp; have HQ := Lib.hid hq
  have t0 : ((l.length : Int) != (l.length : Int)) = false := by simp
  clear hp hq
  go_enter Try.func17, Try.ntmps17
  go_wp2_with fail
  go_loopg [5] l.length (fun n1 i wr => ∃ k : Nat, k + n1 = l.length ∧ i = .int .i64 k ∧ Below w.heap.size w wr)
  case atStart => exact ⟨0, by omega, by go_num, Below.refl _ _⟩
  case round =>
    obtain ⟨k, hkn, rfl, hbw⟩ := hrel
    have HB := Lib.hid hbw
    clear hbw
    by_cases hlt : k < l.length
    · obtain ⟨n', rfl⟩ : ∃ n', gk = n' + 1 := ⟨gk - 1, by omega⟩
      obtain ⟨g, off, rfl, hg, hc⟩ := (HP.out.below HB.out).at_ (by omega)
      obtain ⟨g2, off2, rfl, hg2, hc2⟩ := (HQ.out.below HB.out).at_ (by omega)
      obtain ⟨c0, c1⟩ := hc k hlt
      obtain ⟨d0, d1⟩ := hc2 k hlt
      generalize (l[k]'hlt).1 = x at c0 d0
      generalize (l[k]'hlt).2 = y at c1 d1
      have i1 : (k : Int) < l.length := by omega
      have k0 : (0 : Int) ≤ k := by omega
      have t1 : (x != x) = false := by simp
      have t2 : (y != y) = false := by simp
      have t3 : (x == x) = true := beq_self_eq_true _
      have t4 : (y == y) = true := beq_self_eq_true _
      clear hc hc2
      go_wp2_with fail
      go_quiet (fail)
      go_wp2_with fail
      go_roundg n'
      case measure => omega
      case rel => exact ⟨k + 1, by omega, by go_num, HB.out.trans (drewB _ _ _)⟩
    · obtain rfl : k = l.length := by omega
      go_wp2_with fail
      go_ret
      exact ⟨rfl, HB.out⟩
end Go.Proofs.Ytnhbilcpdombfaa
