/- links: the reference's lists in memory; Find. links: the reference's free, end. links: append of any slice of numbers to a row of one's own; what put and cut leave. -/
import Derived.Test.YtmelcohfjonjfaaLrMath
import Derived.Test.YtmelcohfjonjfaaWLkKnown
import Derived.Deep.RegionHeld3
import Derived.Deep.AppendLies
namespace Go.Proofs.Ytmelcohfjonjfaa
open Go.RowKit

/-- A slice that holds a list of slots, in a row that K names (or it is nil). -/
def SlK (K : Nat → Prop) (W : World) (u : Value) (l : List Nat) : Prop :=
  (u = .slice none 0 0 ∧ l = []) ∨ ∃ q c : Nat, u = .slice (some ⟨q, 0, none⟩) l.length c ∧ l.length ≤ c ∧ K q ∧ q < W.heap.size ∧ ∀ j, j < l.length → W.cell? ⟨q, j, none⟩ = some (.int .i64 (natF l j))
theorem SlK.keep {K : Nat → Prop} {W W' : World} {u : Value} {l : List Nat} (h : SlK K W u l) (hs : W.heap.size ≤ W'.heap.size) (hb : ∀ q, K q → q < W.heap.size → W'.heap[q]? = W.heap[q]?) : SlK K W' u l := by
  rcases h with h | ⟨q, c, e, hc, hK, hq, hx⟩
  · exact .inl h
  · exact .inr ⟨q, c, e, hc, hK, Nat.lt_of_lt_of_le hq hs, fun j hj => (World.cell?_of_block (w := W) (hb q hK hq)).trans (hx j hj)⟩
theorem SlK.form {K : Nat → Prop} {W : World} {u : Value} {l : List Nat} (h : SlK K W u l) : ∃ p c, u = .slice p l.length c ∧ ∀ j, j < l.length → ∃ q, p = some ⟨q, 0, none⟩ ∧ W.cell? ⟨q, j, none⟩ = some (.int .i64 (natF l j)) := by
  rcases h with ⟨e, rfl⟩ | ⟨q, c, e, _, _, _, hx⟩
  · exact ⟨none, 0, e, fun j hj => by cases hj⟩
  · exact ⟨_, c, e, fun j hj => ⟨q, rfl, hx j hj⟩⟩
/-- The reference's lists: the box C, the row of lists g, the row of values gv. -/
structure LsAt (K : Nat → Prop) (W : World) (C g gv cg cv n m : Nat) (v : Nat → Int) (of : Nat → List Nat) : Prop where
  box : W.heap[C]? = some (.cells #[.int .i64 (n : Int), .slice (some ⟨g, 0, none⟩) m cg, .slice (some ⟨gv, 0, none⟩) n cv] 31 (0, 0))
  rows : ∃ cur, W.heap[g]? = some (.cells cur 29 (0, 0)) ∧ m ≤ cur.size ∧ ∀ j, j < m → ∃ u, cur[j]? = some u ∧ SlK K W u (of j)
  vals : RowF W gv n v
  ne : C ≠ g ∧ C ≠ gv ∧ g ≠ gv
theorem LsAt.cells {K : Nat → Prop} {W : World} {C g gv cg cv n m : Nat} {v : Nat → Int} {of : Nat → List Nat} (h : LsAt K W C g gv cg cv n m v of) :
    W.cell? ⟨C, 0, none⟩ = some (.int .i64 (n : Int)) ∧ W.cell? ⟨C, 1, none⟩ = some (.slice (some ⟨g, 0, none⟩) m cg) ∧ W.cell? ⟨C, 2, none⟩ = some (.slice (some ⟨gv, 0, none⟩) n cv) :=
  ⟨row_cell h.box rfl, row_cell h.box rfl, row_cell h.box rfl⟩
theorem LsAt.row {K : Nat → Prop} {W : World} {C g gv cg cv n m : Nat} {v : Nat → Int} {of : Nat → List Nat} (h : LsAt K W C g gv cg cv n m v of) {j : Nat} (hj : j < m) :
    ∃ u, W.cell? ⟨g, j, none⟩ = some u ∧ W.frozen? ⟨g, j, none⟩ = false ∧ SlK K W u (of j) := by
  obtain ⟨cur, h1, h2, h3⟩ := h.rows
  obtain ⟨u, hu, hs⟩ := h3 j hj
  exact ⟨u, row_cell h1 hu, row_free h1, hs⟩
theorem posL_drop {x : Int} {l : List Nat} {j : Nat} (hj : j < l.length) : posL x (l.drop j) j = if natF l j = x then (j : Int) else posL x (l.drop (j + 1)) (j + 1) := by
  rw [List.drop_eq_getElem_cons hj]
  show (if ((l[j] : Nat) : Int) = x then _ else _) = _
  unfold natF
  rw [List.getD_eq_getElem?_getD, List.getElem?_eq_getElem hj]
  rfl
set_option maxHeartbeats 4000000 in
set_option maxRecDepth 100000 in
theorem find_any {K : Nat → Prop} {W : World} {C g gv cg cv n m : Nat} {v : Nat → Int} {of : Nat → List Nat} (h : LsAt K W C g gv cg cv n m v of) (hm : m ≤ 100000) (hl : ∀ i, i < m → (of i).length ≤ 100000) (x : Int) :
    Calls Try.prog 61 #[.pointer (some ⟨C, 0, none⟩), .int .i64 x] W (OkEq (TwoI (findR of x 0 m).1 (findR of x 0 m).2) W) := by
  obtain ⟨c0, c1, c2⟩ := h.cells
  have HROW := Lib.hid (fun j (hj : j < m) => h.row hj)
  have HM := Lib.hid hm; have HL := Lib.hid hl
  obtain ⟨r, hr⟩ : ∃ r, r = findR of x 0 m := ⟨_, rfl⟩
  rw [← hr]
  have HR := Lib.hid hr
  clear h hm hl hr c0 c2
  go_enter Try.func61, Try.ntmps61
  go_wp2_with fail
  go_loopg [6] m (fun n1 i wr => ∃ k : Nat, k + n1 = m ∧ i = .int .i64 (k : Int) ∧ wr = W ∧ r = findR of x k n1)
  case atStart => exact ⟨0, by omega, by go_num, rfl, HR.out⟩
  case round =>
    obtain ⟨k, hkm, rfl, rfl, hrk⟩ := hrel
    obtain ⟨wx, rfl⟩ : ∃ wx : World, wx = wr := ⟨_, rfl⟩
    by_cases hlt : k < m
    · obtain ⟨n', rfl⟩ : ∃ n', gk = n' + 1 := ⟨gk - 1, by omega⟩
      obtain ⟨u, u0, _, hu⟩ := HROW.out k hlt
      obtain ⟨p, c, rfl, hx⟩ := hu.form
      have HX := Lib.hid hx
      have hlk := HL.out k hlt
      generalize hLk : of k = L at HX hlk u0
      have i1 : (k : Int) < m := by omega
      have i2 : (0 : Int) ≤ k := by omega
      have w1 : IntKind.i64.wrap ((k : Int) + 1) = (k : Int) + 1 := IntWalk.i64_in _ (by have := HM.out; omega)
      unfold findR at hrk
      rw [hLk] at hrk
      have HRK := Lib.hid hrk; have HLK := Lib.hid hLk; have HLN := Lib.hid hlk
      clear hrk hLk hx hu hlk
      go_wp2_with fail
      go_loopg [7] L.length (fun n2 i wr => ∃ j : Nat, j + n2 = L.length ∧ i = .int .i64 (j : Int) ∧ wr = wx ∧ posL x (L.drop j) j = posL x L 0)
      case atStart => exact ⟨0, by omega, by go_num, rfl, rfl⟩
      case round =>
        obtain ⟨j, hjl, rfl, rfl, hpj⟩ := hrel
        obtain ⟨wy, rfl⟩ : ∃ wy : World, wy = wr := ⟨_, rfl⟩
        by_cases hjlt : j < L.length
        · obtain ⟨n2, rfl⟩ : ∃ n2, gk = n2 + 1 := ⟨gk - 1, by omega⟩
          obtain ⟨q, rfl, y0⟩ := HX.out j hjlt
          have i3 : (j : Int) < L.length := by omega
          have i4 : (0 : Int) ≤ j := by omega
          have w2 : IntKind.i64.wrap ((j : Int) + 1) = (j : Int) + 1 := IntWalk.i64_in _ (by have := HLN.out; omega)
          rw [posL_drop hjlt] at hpj
          generalize natF L j = y at y0 hpj
          by_cases hy : y = x
          · have t1 : (y == x) = true := beq_iff_eq.2 hy
            rw [if_pos hy] at hpj
            have hrr := HRK.out
            rw [← hpj, if_neg (by omega)] at hrr
            have HRR := Lib.hid hrr
            clear hpj hrr hy
            go_wp2_with fail
            go_ret2
            rw [HRR.out]
            exact ⟨rfl, rfl⟩
          · have t1 : (y == x) = false := beq_eq_false_iff_ne.2 hy
            rw [if_neg hy] at hpj
            have HPJ := Lib.hid hpj
            clear hpj hy
            go_wp2_with fail
            go_roundg n2
            case measure => omega
            case rel => exact ⟨j + 1, by omega, by go_num, rfl, HPJ.out⟩
        · obtain rfl : j = L.length := by omega
          rw [List.drop_length] at hpj
          have hrr := HRK.out
          rw [← hpj, if_pos (show posL x [] L.length = -1 from rfl)] at hrr
          have HRR := Lib.hid hrr
          clear hpj hrr
          go_wp2_with fail
          go_roundg n'
          case measure => omega
          case rel => exact ⟨k + 1, by omega, by go_num, rfl, HRR.out⟩
    · obtain rfl : k = m := by omega
      obtain rfl : gk = 0 := by omega
      have hrr : r = (-1, -1) := hrk
      have HRR := Lib.hid hrr
      clear hrr hrk
      go_wp2_with fail
      go_ret2
      rw [HRR.out]
      exact ⟨rfl, rfl⟩
end Go.Proofs.Ytmelcohfjonjfaa
namespace Go.Proofs.Ytmelcohfjonjfaa
open Go.RowKit

theorem find_lt {n m : Nat} {of : Nat → List Nat} {F : LkF} (h : Rep n m of F) {i : Nat} (hi : i < m) : (of i).length ≤ n := by
  have := List.Nodup.length_le_of_subset (h.nodup i hi) (l₂ := List.range n) (fun x hx => List.mem_range.2 (h.lt i hi x hx))
  simpa using this
set_option maxHeartbeats 4000000 in
set_option maxRecDepth 100000 in
theorem rfree_any {K : Nat → Prop} {W : World} {C g gv cg cv n m : Nat} {v : Nat → Int} {of : Nat → List Nat} {F : LkF} (h : LsAt K W C g gv cg cv n m v of) (hr : Rep n m of F) (hn : n ≤ 2000) (hm : m ≤ 64) :
    Calls Try.prog 71 #[.pointer (some ⟨C, 0, none⟩)] W (OkEq (.int .i64 (freeS n m of)) W) := by
  obtain ⟨c0, c1, c2⟩ := h.cells
  have CF := Lib.hid (fun x => find_any h (by omega) (fun i hi => Nat.le_trans (find_lt hr hi) (by omega)) x)
  have HF := Lib.hid (fun k (hk : k < n) => find_free hr hk)
  have HC := Lib.hid (fun k => whr_cases m of k)
  have HN := Lib.hid hn
  obtain ⟨r, hr2⟩ : ∃ r, r = freeS n m of := ⟨_, rfl⟩
  rw [← hr2]
  have HR := Lib.hid hr2
  clear h hr hn hm hr2 c1 c2
  go_enter Try.func71, Try.ntmps71
  go_wp2_with fail
  go_loopg [3] n (fun n1 i wr => ∃ k : Nat, k + n1 = n ∧ i = .int .i64 (k : Int) ∧ wr = W ∧ r = idxF (whr m of) (-1) k n1)
  case atStart => exact ⟨0, by omega, by go_num, rfl, HR.out⟩
  case round =>
    obtain ⟨k, hkm, rfl, rfl, hrk⟩ := hrel
    obtain ⟨wx, rfl⟩ : ∃ wx : World, wx = wr := ⟨_, rfl⟩
    by_cases hlt : k < n
    · obtain ⟨n', rfl⟩ : ∃ n', gk = n' + 1 := ⟨gk - 1, by omega⟩
      have i1 : (k : Int) < n := by omega
      have w1 : IntKind.i64.wrap ((k : Int) + 1) = (k : Int) + 1 := IntWalk.i64_in _ (by have := HN.out; omega)
      have e1 := HF.out k hlt
      have C := Lib.hid (CF.out (k : Int))
      obtain ⟨a, ha⟩ : ∃ a, a = (findR of (k : Int) 0 m).1 := ⟨_, rfl⟩
      obtain ⟨b, hb⟩ : ∃ b, b = (findR of (k : Int) 0 m).2 := ⟨_, rfl⟩
      rw [← ha, ← hb] at C
      rw [← ha] at e1
      clear ha hb
      unfold idxF at hrk
      rw [← e1] at hrk
      have hcs := HC.out k
      rw [← e1] at hcs
      unfold TwoI at C
      clear e1
      rcases hcs with rfl | ⟨i, rfl⟩
      · rw [if_pos rfl] at hrk
        have HRR := Lib.hid hrk
        clear hrk
        go_wp2_with fail
        refine C.out.mono ?_
        rintro e w1 ⟨rfl, rfl⟩
        go_wp2_with fail
        go_ret
        rw [HRR.out]
        exact ⟨rfl, rfl⟩
      · rw [if_neg (by omega)] at hrk
        have HRR := Lib.hid hrk
        have t1 : ¬ (i : Int) < 0 := by omega
        clear hrk
        go_wp2_with fail
        refine C.out.mono ?_
        rintro e w1 ⟨rfl, rfl⟩
        go_wp2_with fail
        go_roundg n'
        case measure => omega
        case rel => exact ⟨k + 1, by omega, by go_num, rfl, HRR.out⟩
    · obtain rfl : k = n := by omega
      obtain rfl : gk = 0 := by omega
      have hrr : r = -1 := hrk
      have HRR := Lib.hid hrr
      clear hrr hrk
      go_wp2_with fail
      go_ret
      rw [HRR.out]
      exact ⟨rfl, rfl⟩
set_option maxHeartbeats 2000000 in
set_option maxRecDepth 100000 in
theorem rend_any {K : Nat → Prop} {W : World} {C g gv cg cv n m : Nat} {v : Nat → Int} {of : Nat → List Nat} (h : LsAt K W C g gv cg cv n m v of) {k : Nat} (hk : k < m) (front : Bool) :
    Calls Try.prog 67 #[.pointer (some ⟨C, 0, none⟩), .int .i64 (k : Int), .bool front] W (OkEq (.int .i64 (if front then 0 else ((of k).length : Int))) W) := by
  obtain ⟨c0, c1, c2⟩ := h.cells
  obtain ⟨u, u0, _, hu⟩ := h.row hk
  obtain ⟨p, c, rfl, hx⟩ := hu.form
  have i1 : (k : Int) < m := by omega
  have i2 : (0 : Int) ≤ k := by omega
  clear h hx hu
  generalize (of k).length = L at u0 ⊢
  cases front
  all_goals
    go_enter Try.func67, Try.ntmps67
    go_wp2_with fail
    go_ret
    exact ⟨rfl, rfl⟩
end Go.Proofs.Ytmelcohfjonjfaa
namespace Go.Proofs.Ytmelcohfjonjfaa
open Go.RowKit

/-- A slice that holds m numbers, or is nil. -/
def NewsAt (W : World) (x : Value) (m : Nat) (f : Nat → Int) : Prop :=
  (x = .slice none 0 0 ∧ m = 0) ∨ ∃ g off c : Nat, x = .slice (some ⟨g, off, none⟩) m c ∧ ∀ j, j < m → W.cell? ⟨g, off + j, none⟩ = some (.int .i64 (f j))
theorem run_app {w : World} {v : Value} {n : Nat} {xs : List Value} {x : Value} {m : Nat} {f : Nat → Int} {base : Nat} (ty : TypeId) (hown : w.ownsRow base 3 1 v n xs) (hx : NewsAt w x m f) (hb : base ≤ w.heap.size) (hnm : n + m ≤ 100000) :
    ∃ v' w', (Builtin.append_ #[29, 29] ty #[v, x]).run Try.prog w = .ok v' w' ∧ w'.ownsRow base 3 1 v' (n + m) (xs ++ IntC m f) ∧ w.grownBy w' v.ownBlock := by
  obtain ⟨i0, hi, hz0, hz1, hz2⟩ := info_partsB info_int
  rcases hx with ⟨rfl, rfl⟩ | ⟨g, off, c, rfl, hc⟩
  · refine ⟨v, w, run_append_owned_none (P := Try.prog) w base 29 ty 3 i0 1 Try.underlying29 hi v n xs hown, ?_, ⟨rfl, rfl, rfl, Nat.le_refl _, fun _ _ _ => rfl⟩⟩
    have : IntC 0 f = [] := rfl
    rw [this, List.append_nil, Nat.add_zero]
    exact hown
  · obtain ⟨v', w', hr, h2, h3, _⟩ := run_append_own (P := Try.prog) w base 29 ty 3 i0 (.int .i64 0) 1 8 Try.underlying29 hi hz0 hz1 hz2 rfl (by decide) v n xs hown ⟨g, off, none⟩ m c (IntC m f) (by rw [IntC_len, Nat.mul_one]) (fun j u hj => by
      have hjl : j < m := by rw [← IntC_len m f]; exact (List.getElem?_eq_some_iff.1 hj).1
      rw [IntC_get hjl] at hj
      rw [WideShapes.add_plain, ← hj]
      exact hc j hjl) (fun u hu => by
      obtain ⟨y, _, hy⟩ := List.mem_map.1 hu
      rw [← hy]; rfl) (by unfold maxLen; omega) (by omega) hb
    exact ⟨v', w', hr, h2, h3⟩
theorem step_app {ops : Array Oper} {o : Oper} {a : Act} {w : World} {K : Act → World → Prop} {Q : Exit → Act → World → Prop} {E : Prop} (hgd : o.guard = none) (s x : Operand)
    (ho : o.op = .call { callee := .builtin .append, args := #[s, x], argTypes := #[29, 29] }) (v : Value) (n : Nat) (xs : List Value) (hs : a.eval s = v) {base : Nat} (hown : w.ownsRow base 3 1 v n xs)
    (xv : Value) (m : Nat) (f : Nat → Int) (hx : a.eval x = xv) (hnews : NewsAt w xv m f) (hb : base ≤ w.heap.size) (hnm : n + m ≤ 100000)
    (h : ∀ v' w', w'.ownsRow base 3 1 v' (n + m) (xs ++ IntC m f) → Below base w w' → K (a.put o.dst v') w') :
    if Region.wanted o (yielded ops a.tmps) = true then Oper.wp Try.prog o a w K Q else E := by
  have hw : Region.wanted o (yielded ops a.tmps) = true := by simp [Region.wanted, hgd]
  rw [if_pos hw]
  obtain ⟨v', w', hr, h2, h3⟩ := run_app o.type hown hnews hb hnm
  unfold Oper.wp execOp
  simp only [ho, resolve, invoke, builtin, Sem.run_bind, Sem.run_pure, Result.andThen_ok, List.map_toArray, List.map_cons, List.map_nil, hs, hx, hr]
  exact h v' w' h2 ((Below.refl base w).grown h3 hb (fun k e => (hown.lt k e).1))
theorem natC_eq (l : List Nat) : natC l = IntC l.length (natF l) := by
  apply List.ext_getElem?
  intro j
  by_cases hj : j < l.length
  · rw [IntC_get hj]
    unfold natC natF
    rw [List.getElem?_map, List.getElem?_eq_getElem hj, List.getD_eq_getElem?_getD, List.getElem?_eq_getElem hj]
    rfl
  · rw [List.getElem?_eq_none (by rw [natC_len]; omega), List.getElem?_eq_none (by rw [IntC_len]; omega)]
theorem natC_take {l : List Nat} {k : Nat} (hk : k ≤ l.length) : IntC k (natF l) = natC (l.take k) := by
  rw [natC_eq, List.length_take, Nat.min_eq_left hk]
  apply List.ext_getElem?
  intro j
  by_cases hj : j < k
  · rw [IntC_get hj, IntC_get hj]
    unfold natF
    rw [List.getD_eq_getElem?_getD, List.getD_eq_getElem?_getD, List.getElem?_take_of_lt hj]
  · rw [List.getElem?_eq_none (by rw [IntC_len]; omega), List.getElem?_eq_none (by rw [IntC_len]; omega)]
theorem natC_drop {l : List Nat} (k : Nat) : IntC (l.length - k) (fun j => natF l (k + j)) = natC (l.drop k) := by
  rw [natC_eq, List.length_drop]
  apply List.ext_getElem?
  intro j
  by_cases hj : j < l.length - k
  · rw [IntC_get hj, IntC_get hj]
    unfold natF
    rw [List.getD_eq_getElem?_getD, List.getD_eq_getElem?_getD, List.getElem?_drop]
  · rw [List.getElem?_eq_none (by rw [IntC_len]; omega), List.getElem?_eq_none (by rw [IntC_len]; omega)]
theorem own_slK {K : Nat → Prop} {W : World} {base : Nat} {u : Value} {l : List Nat} (h : W.ownsRow base 3 1 u l.length (natC l)) (hK : ∀ q, base ≤ q → K q) : SlK K W u l := by
  rcases h.2 with ⟨h1, h0⟩ | ⟨g, c, cur, h1, hb, hg, hc, _, hs, ht⟩
  · exact .inl ⟨h1, List.length_eq_zero_iff.1 h0⟩
  · refine .inr ⟨g, c, h1, hc, hK g hb, (Array.getElem?_eq_some_iff.1 hg).1, fun j hj => row_cell hg ?_⟩
    have h2 : (cur.toList.take (l.length * 1))[j]? = (natC l)[j]? := by rw [ht]
    rw [List.getElem?_take_of_lt (by omega), Array.getElem?_toList, natC_eq, IntC_get hj] at h2
    exact h2
/-- What is kept, what is written, and where new memory begins. -/
structure KOk (K : Nat → Prop) (base C g gv : Nat) : Prop where
  new : ∀ q, base ≤ q → K q
  ng : ¬ K g
  nv : ¬ K gv
  nc : ¬ K C
  lt : C < base ∧ g < base ∧ gv < base
/-- A list is another one: its slice is stored, in a later world. -/
theorem LsAt.setList {K : Nat → Prop} {W W1 : World} {C g gv cg cv n m base : Nat} {v : Nat → Int} {of : Nat → List Nat} (h : LsAt K W C g gv cg cv n m v of) (hk : KOk K base C g gv) (hbs : base ≤ W.heap.size) (hb : Below W.heap.size W W1) {i : Nat} (hi : i < m) {u : Value} {l : List Nat} (hu : SlK K W1 u l) :
    LsAt K (W1.setCell ⟨g, i, none⟩ u) C g gv cg cv n m v (setOf of i l) := by
  obtain ⟨n1, n2, n3⟩ := h.ne
  have hlt := hk.lt
  have ho : ∀ k, k ≠ g → (W1.setCell ⟨g, i, none⟩ u).heap[k]? = W1.heap[k]? := fun k e => Below.heap_setCell _ _ _ _ e
  have hsz : (W1.setCell ⟨g, i, none⟩ u).heap.size = W1.heap.size := by simp [World.setCell]
  have hkq : ∀ q, K q → q ≠ g := fun q hq e => hk.ng (e ▸ hq)
  obtain ⟨cur, r1, r2, r3⟩ := h.rows
  have r1' := (hb.block g (by omega)).trans r1
  refine ⟨(ho C n1).trans ((hb.block C (by omega)).trans h.box), ⟨_, heap_set (i := i) u r1', by simpa using r2, fun j hj => ?_⟩, h.vals.block ((ho gv (fun e => n3 e.symm)).trans (hb.block gv (by omega))), h.ne⟩
  rw [Array.getElem?_setIfInBounds]
  unfold setOf
  by_cases e : i = j
  · subst e
    rw [if_pos rfl, if_pos (by omega), if_pos rfl]
    exact ⟨u, rfl, hu.keep (by rw [hsz]; exact Nat.le_refl _) (fun q hq _ => ho q (hkq q hq))⟩
  · rw [if_neg e, if_neg (fun e2 => e e2.symm)]
    obtain ⟨u2, hu2, hs2⟩ := r3 j hj
    exact ⟨u2, hu2, hs2.keep (by rw [hsz]; exact hb.size) (fun q hq hlt => (ho q (hkq q hq)).trans (hb.block q hlt))⟩
def LsS (g gv : Nat) (k : Nat) : Prop := k = g ∨ k = gv
/-- What put and cut leave. -/
def LsPost (K : Nat → Prop) (C g gv cg cv n m : Nat) (v : Nat → Int) (of : Nat → List Nat) (W : World) (e : Ending) (W' : World) : Prop := e = .returned (.tuple #[]) ∧ LsAt K W' C g gv cg cv n m v of ∧ BelowS (LsS g gv) W.heap.size W W'
theorem belowS_set {g gv i : Nat} {W W1 : World} (hb : Below W.heap.size W W1) (u : Value) : BelowS (LsS g gv) W.heap.size W (W1.setCell ⟨g, i, none⟩ u) :=
  (BelowS.of hb).cell (show LsS g gv g from .inl rfl) i u
end Go.Proofs.Ytmelcohfjonjfaa
