/- The reference's Place. -/
import Derived.Test.YtnhbilcpdombfaaSpFirst
import Derived.Test.YtnhbilcpdombfaaSpHas
namespace Go.Proofs.Ytnhbilcpdombfaa
open Go.RowKit

theorem at_facts {align : Nat} (h : 1 ≤ align) (x : Nat × Nat) : x.1 ≤ atP align x ∧ atP align x % align = 0 ∧ atP align x < x.1 + align ∧ ∀ p, x.1 ≤ p → p % align = 0 → atP align x ≤ p := by
  have h1 := Nat.div_add_mod (x.1 + align - 1) align
  have h2 := Nat.mod_lt (x.1 + align - 1) (show align > 0 by omega)
  have e : atP align x = align * ((x.1 + align - 1) / align) := by unfold atP; rw [Nat.mul_comm]
  refine ⟨by rw [e]; omega, by rw [e]; exact Nat.mul_mod_right _ _, by rw [e]; omega, fun p hp hm => ?_⟩
  obtain ⟨m, rfl⟩ : ∃ m, p = align * m := ⟨p / align, by have := Nat.div_add_mod p align; omega⟩
  rw [e]
  refine Nat.mul_le_mul_left align ?_
  refine Nat.le_of_lt_succ ?_
  refine (Nat.div_lt_iff_lt_mul (by omega)).2 ?_
  rw [Nat.succ_mul, Nat.mul_comm m align]
  omega
/-- What Place returns. -/
def placeI (pages align : Nat) (x : Nat × Nat) : Int := if fitsP pages align x then (atP align x : Int) else -1
set_option maxHeartbeats 4000000 in
set_option maxRecDepth 100000 in
theorem rplace_any (a b pages align : Nat) (w : World) (hab : a + b ≤ 1024) (hp : pages ≤ 1024) (h1 : 1 ≤ align) (h2 : align ≤ 1024) :
    Calls Try.prog 72 #[.agg #[.int .i64 (a : Int), .int .i64 (b : Int)], .int .i64 (pages : Int), .int .i64 (align : Int)] w (ErrPost (placeI pages align (a, b)) w) := by
  obtain ⟨f1, f2, f3, f4⟩ := at_facts h1 (a, b)
  have e : placeI pages align (a, b) = if atP align (a, b) + pages ≤ a + b then (atP align (a, b) : Int) else -1 := by
    unfold placeI fitsP; by_cases h : atP align (a, b) + pages ≤ a + b <;> simp [h]
  simp only at f1 f3 f4
  generalize atP align (a, b) = q at f1 f2 f3 f4 e
  generalize placeI pages align (a, b) = r at e
  have HX := Lib.hid (show XAt (w.alloc (.cells #[.int .i64 (a : Int), .int .i64 (b : Int)] 31)) w.heap.size a b from ⟨row_cell (heap_alloc_new w _) rfl, row_cell (heap_alloc_new w _) rfl⟩)
  have HB := Lib.hid (show Below w.heap.size w (w.alloc (.cells #[.int .i64 (a : Int), .int .i64 (b : Int)] 31)) from (Below.refl _ _).alloc (Nat.le_refl _) _)
  have E := Lib.hid e; have F4 := Lib.hid f4; have F2 := Lib.hid f2
  have w1 : IntKind.i64.wrap ((a : Int) + (b : Int)) = (a : Int) + (b : Int) := IntWalk.i64_in _ (by omega)
  have z0 : ¬ (align : Int) = 0 := by omega
  clear e f4 f2
  go_enter Try.func72, Try.ntmps72
  have b0 := HX.out.c0
  have b1 := HX.out.c1
  go_wp2_with fail
  generalize w.alloc (.cells #[.int .i64 (a : Int), .int .i64 (b : Int)] 31) = W0 at HX HB ⊢
  generalize w.heap.size = Bx at HX ⊢
  clear b0 b1
  go_loopg [7] (q + 1 - a) (fun n1 i W => ∃ pg : Nat, pg + n1 = q + 1 ∧ a ≤ pg ∧ pg ≤ q ∧ i = .int .i64 pg ∧ W = W0)
  case atStart => exact ⟨a, by omega, Nat.le_refl _, f1, rfl, rfl⟩
  case round =>
    obtain ⟨pg, hpn, hap, hpq, rfl, rfl⟩ := hrel
    have b0 := HX.out.c0
    have b1 := HX.out.c1
    have p0 : (0 : Int) ≤ pg := by omega
    have p4 : (pg : Int) ≤ 4096 := by omega
    by_cases hfit : pg + pages ≤ a + b
    · have i1 : (pg : Int) + (pages : Int) ≤ (a : Int) + (b : Int) := by omega
      obtain ⟨rm, hrm⟩ : ∃ rm, rm = pg % align := ⟨_, rfl⟩
      have hr1 : Int.tmod (pg : Int) (align : Int) = (rm : Int) := by rw [hrm]; exact (Int.ofNat_tmod pg align).symm
      have hr2 : rm ≤ 1024 := by have := Nat.mod_lt pg (show align > 0 by omega); omega
      have hr3 : IntKind.i64.wrap (rm : Int) = (rm : Int) := IntWalk.i64_in _ (by omega)
      by_cases hz : rm = 0
      · obtain rfl : pg = q := by have := F4.out pg hap (by omega); omega
        have HF := Lib.hid (show r = (pg : Int) by rw [E.out, if_pos hfit])
        have t1 : ((rm : Int) == 0) = true := by rw [hz]; rfl
        clear hrm hz
        go_wp2_with fail
        go_ret
        exact errPost_mk HF.out (by first | exact HB.out | exact HB.out)
      · have hlt : pg < q := by
          rcases Nat.lt_or_ge pg q with h | h
          · exact h
          · obtain rfl : pg = q := by omega
            exact absurd (hrm.trans F2.out) hz
        have t1 : ((rm : Int) == 0) = false := beq_eq_false_iff_ne.2 (by omega)
        obtain ⟨n', rfl⟩ : ∃ n', gk = n' + 1 := ⟨gk - 1, by omega⟩
        clear hrm hz
        go_wp2_with fail
        go_roundg n'
        case measure => omega
        case rel => exact ⟨pg + 1, by omega, by omega, by omega, by go_num, rfl⟩
    · have i1 : ¬ (pg : Int) + (pages : Int) ≤ (a : Int) + (b : Int) := by omega
      have HF := Lib.hid (show r = -1 by rw [E.out, if_neg (by omega)])
      go_wp2_with fail
      go_ret
      exact errPost_mk HF.out HB.out
end Go.Proofs.Ytnhbilcpdombfaa
