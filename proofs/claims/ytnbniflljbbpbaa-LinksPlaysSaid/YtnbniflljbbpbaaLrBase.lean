/- links: the reference's lists in memory; Find. -/
import Derived.Test.YtnbniflljbbpbaaLrMath
import Derived.Test.YtnbniflljbbpbaaWLkKnown
namespace Go.Proofs.Ytnbniflljbbpbaa
open Go.RowKit

/-- A slice that holds a list of slots, in a row that K names (or it is nil). -/
def SlK (K : Nat → Prop) (W : World) (u : Value) (l : List Nat) : Prop :=
  (u = .slice none 0 0 ∧ l = []) ∨ ∃ q c : Nat, u = .slice (some ⟨q, 0, none⟩) l.length c ∧ l.length ≤ c ∧ K q ∧ q < W.heap.size ∧ ∀ j, j < l.length → W.cell? ⟨q, j, none⟩ = some (.int .i64 (natF l j))
theorem SlK.keep {K : Nat → Prop} {W W' : World} {u : Value} {l : List Nat} (h : SlK K W u l) (hs : W.heap.size ≤ W'.heap.size) (hb : ∀ q, K q → q < W.heap.size → W'.heap[q]? = W.heap[q]?) : SlK K W' u l := by
  rcases h with h | ⟨q, c, e, hc, hK, hq, hx⟩
  · exact .inl h
  · exact .inr ⟨q, c, e, hc, hK, Nat.lt_of_lt_of_le hq hs, fun j hj => (World.cell?_of_block (w := W) (hb q hK hq)).trans (hx j hj)⟩
theorem SlK.form {K : Nat → Prop} {W : World} {u : Value} {l : List Nat} (h : SlK K W u l) : ∃ p c, u = .slice p l.length c ∧ ∀ j, j < l.length → ∃ q, p = some ⟨q, 0, none⟩ ∧ W.cell? ⟨q, j, none⟩ = some (.int .i64 (natF l j)) := by
  rcases h with ⟨e, rfl⟩ | ⟨q, c, e, _, _, _, hx⟩
  · exact ⟨none, 0, e, fun j hj => by cases hj⟩
  · exact ⟨_, c, e, fun j hj => ⟨q, rfl, hx j hj⟩⟩
/-- The reference's lists: the box C, the row of lists g, the row of values gv. -/
structure LsAt (K : Nat → Prop) (W : World) (C g gv cg cv n m : Nat) (v : Nat → Int) (of : Nat → List Nat) : Prop where
  box : W.heap[C]? = some (.cells #[.int .i64 (n : Int), .slice (some ⟨g, 0, none⟩) m cg, .slice (some ⟨gv, 0, none⟩) n cv] 31 (0, 0))
  rows : ∃ cur, W.heap[g]? = some (.cells cur 29 (0, 0)) ∧ m ≤ cur.size ∧ ∀ j, j < m → ∃ u, cur[j]? = some u ∧ SlK K W u (of j)
  vals : RowF W gv n v
  ne : C ≠ g ∧ C ≠ gv ∧ g ≠ gv
theorem LsAt.cells {K : Nat → Prop} {W : World} {C g gv cg cv n m : Nat} {v : Nat → Int} {of : Nat → List Nat} (h : LsAt K W C g gv cg cv n m v of) :
    W.cell? ⟨C, 0, none⟩ = some (.int .i64 (n : Int)) ∧ W.cell? ⟨C, 1, none⟩ = some (.slice (some ⟨g, 0, none⟩) m cg) ∧ W.cell? ⟨C, 2, none⟩ = some (.slice (some ⟨gv, 0, none⟩) n cv) :=
  ⟨row_cell h.box rfl, row_cell h.box rfl, row_cell h.box rfl⟩
theorem LsAt.row {K : Nat → Prop} {W : World} {C g gv cg cv n m : Nat} {v : Nat → Int} {of : Nat → List Nat} (h : LsAt K W C g gv cg cv n m v of) {j : Nat} (hj : j < m) :
    ∃ u, W.cell? ⟨g, j, none⟩ = some u ∧ W.frozen? ⟨g, j, none⟩ = false ∧ SlK K W u (of j) := by
  obtain ⟨cur, h1, h2, h3⟩ := h.rows
  obtain ⟨u, hu, hs⟩ := h3 j hj
  exact ⟨u, row_cell h1 hu, row_free h1, hs⟩
theorem posL_drop {x : Int} {l : List Nat} {j : Nat} (hj : j < l.length) : posL x (l.drop j) j = if natF l j = x then (j : Int) else posL x (l.drop (j + 1)) (j + 1) := by
  rw [List.drop_eq_getElem_cons hj]
  show (if ((l[j] : Nat) : Int) = x then _ else _) = _
  unfold natF
  rw [List.getD_eq_getElem?_getD, List.getElem?_eq_getElem hj]
  rfl
set_option maxHeartbeats 4000000 in
set_option maxRecDepth 100000 in
theorem find_any {K : Nat → Prop} {W : World} {C g gv cg cv n m : Nat} {v : Nat → Int} {of : Nat → List Nat} (h : LsAt K W C g gv cg cv n m v of) (hm : m ≤ 100000) (hl : ∀ i, i < m → (of i).length ≤ 100000) (x : Int) :
    Calls Try.prog 61 #[.pointer (some ⟨C, 0, none⟩), .int .i64 x] W (OkEq (TwoI (findR of x 0 m).1 (findR of x 0 m).2) W) := by
  obtain ⟨c0, c1, c2⟩ := h.cells
  have HROW := Lib.hid (fun j (hj : j < m) => h.row hj)
  have HM := Lib.hid hm; have HL := Lib.hid hl
  obtain ⟨r, hr⟩ : ∃ r, r = findR of x 0 m := ⟨_, rfl⟩
  rw [← hr]
  have HR := Lib.hid hr
  clear h hm hl hr c0 c2
  go_enter Try.func61, Try.ntmps61
  go_wp2_with fail
  go_loopg [6] m (fun n1 i wr => ∃ k : Nat, k + n1 = m ∧ i = .int .i64 (k : Int) ∧ wr = W ∧ r = findR of x k n1)
  case atStart => exact ⟨0, by omega, by go_num, rfl, HR.out⟩
  case round =>
    obtain ⟨k, hkm, rfl, rfl, hrk⟩ := hrel
    obtain ⟨wx, rfl⟩ : ∃ wx : World, wx = wr := ⟨_, rfl⟩
    by_cases hlt : k < m
    · obtain ⟨n', rfl⟩ : ∃ n', gk = n' + 1 := ⟨gk - 1, by omega⟩
      obtain ⟨u, u0, _, hu⟩ := HROW.out k hlt
      obtain ⟨p, c, rfl, hx⟩ := hu.form
      have HX := Lib.hid hx
      have hlk := HL.out k hlt
      generalize hLk : of k = L at HX hlk u0
      have i1 : (k : Int) < m := by omega
      have i2 : (0 : Int) ≤ k := by omega
      have w1 : IntKind.i64.wrap ((k : Int) + 1) = (k : Int) + 1 := IntWalk.i64_in _ (by have := HM.out; omega)
      unfold findR at hrk
      rw [hLk] at hrk
      have HRK := Lib.hid hrk; have HLK := Lib.hid hLk; have HLN := Lib.hid hlk
      clear hrk hLk hx hu hlk
      go_wp2_with fail
      go_loopg [7] L.length (fun n2 i wr => ∃ j : Nat, j + n2 = L.length ∧ i = .int .i64 (j : Int) ∧ wr = wx ∧ posL x (L.drop j) j = posL x L 0)
      case atStart => exact ⟨0, by omega, by go_num, rfl, rfl⟩
      case round =>
        obtain ⟨j, hjl, rfl, rfl, hpj⟩ := hrel
        obtain ⟨wy, rfl⟩ : ∃ wy : World, wy = wr := ⟨_, rfl⟩
        by_cases hjlt : j < L.length
        · obtain ⟨n2, rfl⟩ : ∃ n2, gk = n2 + 1 := ⟨gk - 1, by omega⟩
          obtain ⟨q, rfl, y0⟩ := HX.out j hjlt
          have i3 : (j : Int) < L.length := by omega
          have i4 : (0 : Int) ≤ j := by omega
          have w2 : IntKind.i64.wrap ((j : Int) + 1) = (j : Int) + 1 := IntWalk.i64_in _ (by have := HLN.out; omega)
          rw [posL_drop hjlt] at hpj
          generalize natF L j = y at y0 hpj
          by_cases hy : y = x
          · have t1 : (y == x) = true := beq_iff_eq.2 hy
            rw [if_pos hy] at hpj
            have hrr := HRK.out
            rw [← hpj, if_neg (by omega)] at hrr
            have HRR := Lib.hid hrr
            clear hpj hrr hy
            go_wp2_with fail
            go_ret2
            rw [HRR.out]
            exact ⟨rfl, rfl⟩
          · have t1 : (y == x) = false := beq_eq_false_iff_ne.2 hy
            rw [if_neg hy] at hpj
            have HPJ := Lib.hid hpj
            clear hpj hy
            go_wp2_with fail
            go_roundg n2
            case measure => omega
            case rel => exact ⟨j + 1, by omega, by go_num, rfl, HPJ.out⟩
        · obtain rfl : j = L.length := by omega
          rw [List.drop_length] at hpj
          have hrr := HRK.out
          rw [← hpj, if_pos (show posL x [] L.length = -1 from rfl)] at hrr
          have HRR := Lib.hid hrr
          clear hpj hrr
          go_wp2_with fail
          go_roundg n'
          case measure => omega
          case rel => exact ⟨k + 1, by omega, by go_num, rfl, HRR.out⟩
    · obtain rfl : k = m := by omega
      obtain rfl : gk = 0 := by omega
      have hrr : r = (-1, -1) := hrk
      have HRR := Lib.hid hrr
      clear hrr hrk
      go_wp2_with fail
      go_ret2
      rw [HRR.out]
      exact ⟨rfl, rfl⟩
end Go.Proofs.Ytnbniflljbbpbaa
