/- nibble and hexValue. -/
import Derived.Test.YtboigkmaccdkpaaGreatDoorHMath
import Derived.Test.YtboigkmaccdkpaaGreatDoorRQuotes
import Derived.Lib.LaidTab
import Derived.Deep.QuietTactic
import Derived.BigQuiet
namespace Go.Proofs.YtboigkmaccdkpaaGreatDoor
open Go.RowKit

/-- The table of the digits, in memory. -/
def HexIs (w : World) : Prop := ∀ k, k < 16 → w.cell? ⟨0, k, none⟩ = some (.int .u8 ((hexD k).toNat : Int))
theorem HexIs.below {w w' : World} (h : HexIs w) (hz : 9 ≤ w.heap.size) (hb : Below w.heap.size w w') : HexIs w' := fun k hk => (hb.cell (p := ⟨0, k, none⟩) (by show 0 < w.heap.size; omega)).trans (h k hk)
theorem nib_extract : ∀ n : Nat, n < 16 → (⟨hexTab.toArray⟩ : ByteArray).extract n (n + 1) = ⟨#[hexD n]⟩ := by
  intro n hn
  rw [extract_one _ n (by exact hn)]
  have : (⟨hexTab.toArray⟩ : ByteArray)[n]'(by exact hn) = hexD n := by
    unfold hexD
    rw [List.getD_eq_getElem?_getD, List.getElem?_eq_getElem (by exact hn)]
    rfl
  rw [this]
theorem nibble_any (n : Nat) (hn : n < 16) (w : World) : Calls Tryz.prog 61 #[.int .u8 n] w fun e w' => e = .returned (.string ⟨#[hexD n]⟩) ∧ w = w' := by
  have he := nib_extract n hn
  unfold hexTab at he
  have h0 : (0 : Int) ≤ n := by omega
  have h1 : (n : Int) ≤ n + 1 := by omega
  have h2 : (n : Int) + 1 ≤ 16 := by omega
  go_enter Tryz.func61, Tryz.ntmps61
  go_wp2_with fail
  go_ret
  exact ⟨rfl, rfl⟩
def valOf (c : UInt8) : Int := match hexV c with
  | some n => n
  | none => -1
theorem valOf_hit {k : Nat} (hk : k < 16) {c : UInt8} (h : hexD k = c) : valOf c = k := by unfold valOf; rw [(hexV_inj hk).1 h]
def hexAgg : Value := .agg #[.int .u8 ((hexD 0).toNat : Int), .int .u8 ((hexD 1).toNat : Int), .int .u8 ((hexD 2).toNat : Int), .int .u8 ((hexD 3).toNat : Int), .int .u8 ((hexD 4).toNat : Int), .int .u8 ((hexD 5).toNat : Int), .int .u8 ((hexD 6).toNat : Int), .int .u8 ((hexD 7).toNat : Int), .int .u8 ((hexD 8).toNat : Int), .int .u8 ((hexD 9).toNat : Int), .int .u8 ((hexD 10).toNat : Int), .int .u8 ((hexD 11).toNat : Int), .int .u8 ((hexD 12).toNat : Int), .int .u8 ((hexD 13).toNat : Int), .int .u8 ((hexD 14).toNat : Int), .int .u8 ((hexD 15).toNat : Int)]
theorem hex_index (k : Nat) (hk : k < 16) (w : World) : (Instr.index 87 hexAgg (.int .i64 k)).run Tryz.prog w = .ok (.int .u8 ((hexD k).toNat : Int)) w := by
  rcases k with _ | _ | _ | _ | _ | _ | _ | _ | _ | _ | _ | _ | _ | _ | _ | _ | k
  all_goals first | (exfalso; omega) | kernel_rfl
set_option maxHeartbeats 4000000 in
set_option maxRecDepth 100000 in
theorem hexValue_any (c : UInt8) (w : World) (h : HexIs w) : Calls Tryz.prog 62 #[.int .u8 (c.toNat : Int)] w fun e w' => e = .returned (.int .i64 (valOf c)) ∧ w = w' := by
  have d0 := h 0 (by omega); have d1 := h 1 (by omega); have d2 := h 2 (by omega); have d3 := h 3 (by omega)
  have d4 := h 4 (by omega); have d5 := h 5 (by omega); have d6 := h 6 (by omega); have d7 := h 7 (by omega)
  have d8 := h 8 (by omega); have d9 := h 9 (by omega); have d10 := h 10 (by omega); have d11 := h 11 (by omega)
  have d12 := h 12 (by omega); have d13 := h 13 (by omega); have d14 := h 14 (by omega); have d15 := h 15 (by omega)
  go_enter Tryz.func62, Tryz.ntmps62
  go_wp2_with fail
  go_loop [6] (fun i => ∃ k : Nat, k ≤ 16 ∧ i = .int .i64 k ∧ ∀ j, j < k → hexD j ≠ c) (fun i => 16 - (intOf i).toNat)
  case atStart => exact ⟨0, by omega, by go_num, fun j hj => absurd hj (Nat.not_lt_zero _)⟩
  case round =>
    obtain ⟨k, hk, rfl, hno⟩ := hrel
    clear d0 d1 d2 d3 d4 d5 d6 d7 d8 d9 d10 d11 d12 d13 d14 d15 h
    have HNO := Lib.hid hno; clear hno
    by_cases hlt : k < 16
    · have hix := hex_index k hlt w
      unfold hexAgg at hix
      have hk0 : (0 : Int) ≤ k := by omega
      have hk1 : (k : Int) < 16 := by omega
      by_cases hc : hexD k = c
      · have hb : (((hexD k).toNat : Int) == (c.toNat : Int)) = true := by rw [hc]; exact beq_self_eq_true _
        have HV : Hid (valOf c = (k : Nat)) := Lib.hid (valOf_hit hlt hc)
        clear hc
        go_wp2_with fail
        go_ret
        exact ⟨ret_int HV.out.symm, rfl⟩
      · have hb : (((hexD k).toNat : Int) == (c.toNat : Int)) = false := by
          rw [beq_eq_false_iff_ne]; intro e; exact hc (UInt8.toNat_inj.1 (by omega))
        have hno' : ∀ j, j < k + 1 → hexD j ≠ c := fun j hj => by
          rcases Nat.lt_succ_iff_lt_or_eq.1 hj with h | rfl
          · exact HNO.out j h
          · exact hc
        have HN := Lib.hid hno'; clear hno' hc
        go_wp2_with fail
        exact ⟨⟨k + 1, by omega, by go_num, HN.out⟩, by simp [intOf]; omega⟩
    · obtain rfl : k = 16 := by omega
      have hv : valOf c = -1 := by
        unfold valOf
        cases hx : hexV c with
        | none => rfl
        | some n => exact absurd (hexV_lt hx).2 (HNO.out n (hexV_lt hx).1)
      have HV := Lib.hid hv; clear hv
      go_wp2_with fail
      go_ret
      exact ⟨ret_int HV.out.symm, rfl⟩
end Go.Proofs.YtboigkmaccdkpaaGreatDoor
