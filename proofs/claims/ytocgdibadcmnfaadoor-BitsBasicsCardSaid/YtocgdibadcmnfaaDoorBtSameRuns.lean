/- The reference's SameRuns, at equal lists. -/
import Derived.Test.YtocgdibadcmnfaaDoorWBTurns
import Derived.Test.YtocgdibadcmnfaaDoorBtJoin
import Derived.BigQuiet
namespace Go.Proofs.YtocgdibadcmnfaaDoor
open Go.RowKit Go.Shelf

set_option maxHeartbeats 1000000 in
set_option maxRecDepth 100000 in
theorem sameRuns_any (L : List (Nat × Nat)) (p q : Option Addr) (c d : Nat) (w : World) (hl : L.length ≤ 100000) (hp : RunsAt w p L) (hq : RunsAt w q L) :
    Calls Tryd.prog 34 #[.slice p L.length c, .slice q L.length d] w (TruePost w) := by
  have HP := Lib.hid hp; have HQ := Lib.hid hq
  have t0 : ((L.length : Int) != (L.length : Int)) = false := by simp
  have l0 : (L.length : Int) ≤ 100000 := by omega
  clear hp hq
  go_enter Tryd.func34, Tryd.ntmps34
  go_wp2_with fail
  go_loopg [5] L.length (fun n1 i wr => ∃ k : Nat, k + n1 = L.length ∧ i = .int .i64 k ∧ Below w.heap.size w wr)
  case atStart => exact ⟨0, by omega, by go_num, Below.refl _ _⟩
  case round =>
    obtain ⟨k, hkn, rfl, hbw⟩ := hrel
    have HB := Lib.hid hbw
    clear hbw
    by_cases hlt : k < L.length
    · obtain ⟨n', rfl⟩ : ∃ n', gk = n' + 1 := ⟨gk - 1, by omega⟩
      obtain ⟨g, rfl, hg, hc⟩ := (HP.out.below HB.out) (by omega)
      obtain ⟨g2, rfl, hg2, hc2⟩ := (HQ.out.below HB.out) (by omega)
      have c0 := (hc k hlt).1; have c1 := (hc k hlt).2
      have d0 := (hc2 k hlt).1; have d1 := (hc2 k hlt).2
      generalize (L[k]'hlt).1 = x at c0 d0
      generalize (L[k]'hlt).2 = y at c1 d1
      have i1 : (k : Int) < L.length := by omega
      have k0 : (0 : Int) ≤ k := by omega
      have t1 : ((x : Int) != (x : Int)) = false := by simp
      have t2 : ((y : Int) != (y : Int)) = false := by simp
      have t3 : ((x : Int) == (x : Int)) = true := beq_self_eq_true _
      have t4 : ((y : Int) == (y : Int)) = true := beq_self_eq_true _
      clear hc hc2
      go_wp2_with fail
      go_quiet (fail)
      go_wp2_with fail
      go_roundg n'
      case measure => omega
      case rel => exact ⟨k + 1, by omega, by go_num, HB.out.trans (drewB _ _ _)⟩
    · obtain rfl : k = L.length := by omega
      go_wp2_with fail
      go_ret
      exact ⟨rfl, HB.out⟩
/-- Two runs in a block of their own. -/
theorem runsAt_two {W : World} {B : Nat} {a b c d : Nat} {t : TypeId} (h : W.heap[B]? = some (.cells #[.int .i64 (a : Int), .int .i64 (b : Int), .int .i64 (c : Int), .int .i64 (d : Int)] t (0, 0))) : RunsAt W (some ⟨B, 0, none⟩) [(a, b), (c, d)] := fun _ => by
  refine ⟨B, rfl, (Array.getElem?_eq_some_iff.1 h).1, fun j hj => ?_⟩
  match j, hj with
  | 0, _ => exact ⟨row_cell h rfl, row_cell h rfl⟩
  | 1, _ => exact ⟨row_cell h rfl, row_cell h rfl⟩
end Go.Proofs.YtocgdibadcmnfaaDoor
