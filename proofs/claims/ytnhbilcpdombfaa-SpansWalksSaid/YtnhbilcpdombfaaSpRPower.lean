/- The reference's power. -/
import Derived.Test.YtnhbilcpdombfaaSpRPlace
namespace Go.Proofs.Ytnhbilcpdombfaa
open Go.RowKit

def powI (n : Int) : Bool := (List.range 11).any fun k => n == ((2 ^ k : Nat) : Int)
set_option maxHeartbeats 4000000 in
set_option maxRecDepth 100000 in
theorem rpower_any (n : Int) (w : World) : Calls Try.prog 71 #[.int .i64 n] w fun e w' => e = .returned (.bool (powI n)) ∧ w' = w := by
  obtain ⟨r, hr⟩ : ∃ r, r = powI n := ⟨_, rfl⟩
  rw [← hr]
  have HR := Lib.hid hr
  clear hr
  go_enter Try.func71, Try.ntmps71
  go_wp2_with fail
  go_loopg [3] 12 (fun n1 i W => ∃ k p : Nat, k + n1 = 12 ∧ k ≤ 11 ∧ p = 2 ^ k ∧ i = .int .i64 p ∧ W = w ∧ ∀ j, j < k → n ≠ ((2 ^ j : Nat) : Int))
  case atStart => exact ⟨0, 1, rfl, by decide, rfl, rfl, rfl, fun j h => absurd h (Nat.not_lt_zero _)⟩
  case round =>
    obtain ⟨k, p, hk, hk2, hp, rfl, rfl, hall⟩ := hrel
    have HALL := Lib.hid hall; have HP := Lib.hid hp
    have hp1 : p ≤ 2048 := by
      rw [hp]
      have : 2 ^ k ≤ 2 ^ 11 := Nat.pow_le_pow_right (by omega) hk2
      simpa using this
    have hp2 : k < 11 → p ≤ 1024 := fun h => by
      rw [hp]
      have : 2 ^ k ≤ 2 ^ 10 := Nat.pow_le_pow_right (by omega) (by omega)
      simpa using this
    have hp3 : k = 11 → p = 2048 := fun h => by rw [hp, h]
    have p0 : (0 : Int) ≤ p := by omega
    have p4 : (p : Int) ≤ 2048 := by omega
    clear hall hp hp1
    by_cases hlt : k < 11
    · have i1 : (p : Int) ≤ 1024 := by have := hp2 hlt; omega
      obtain ⟨n', rfl⟩ : ∃ n', gk = n' + 1 := ⟨gk - 1, by omega⟩
      clear hp2 hp3
      by_cases he : n = (p : Int)
      · have HF := Lib.hid (show r = true by
          rw [HR.out]
          refine List.any_eq_true.2 ⟨k, List.mem_range.2 hlt, ?_⟩
          rw [beq_iff_eq, he, HP.out])
        have t1 : (n == (p : Int)) = true := by rw [he]; exact beq_self_eq_true _
        clear he
        go_wp2_with fail
        go_ret
        exact ⟨by rw [HF.out]; rfl, rfl⟩
      · have t1 : (n == (p : Int)) = false := beq_eq_false_iff_ne.2 he
        have HNE := Lib.hid he
        clear he
        go_wp2_with fail
        go_roundg n'
        case measure => omega
        case rel => exact ⟨k + 1, 2 * p, by omega, by omega, by rw [HP.out, Nat.pow_succ]; omega, by go_num, rfl, fun j hj => by
          by_cases e : j = k
          · rw [e, ← HP.out]; exact HNE.out
          · exact HALL.out j (by omega)⟩
    · have i1 : ¬ (p : Int) ≤ 1024 := by have := hp3 (by omega); omega
      obtain rfl : k = 11 := by omega
      have HF := Lib.hid (show r = false by
        rw [HR.out]
        unfold powI
        rw [List.any_eq_false]
        intro j hj
        have := HALL.out j (List.mem_range.1 hj)
        simpa using this)
      clear hp2 hp3
      go_wp2_with fail
      go_ret
      exact ⟨by rw [HF.out]; rfl, rfl⟩
end Go.Proofs.Ytnhbilcpdombfaa
