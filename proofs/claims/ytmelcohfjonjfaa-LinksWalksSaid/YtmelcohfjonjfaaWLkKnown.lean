/- links: the law of the examples. -/
import Derived.Test.YtmelcohfjonjfaaLkWalked
namespace Go.Proofs.Ytmelcohfjonjfaa
open Go.RowKit Go.Shelf

def natF (L : List Nat) : Nat → Int := fun j => ((L.getD j 0 : Nat) : Int)
theorem own_sl {W : World} {b : Nat} {v : Value} {L : List Nat} (h : W.ownsRow b 3 1 v L.length (natC L)) : SlF W v L.length (natF L) := by
  rcases h.2 with ⟨h1, h0⟩ | ⟨g, c, cur, h1, _, hg, hc, _, hs, ht⟩
  · exact ⟨none, 0, by rw [h1, h0], fun j hj => by omega⟩
  · refine ⟨_, c, h1, fun j hj => ⟨g, rfl, (Array.getElem?_eq_some_iff.1 hg).1, row_cell hg ?_⟩⟩
    have h2 : (cur.toList.take (L.length * 1))[j]? = (natC L)[j]? := by rw [ht]
    rw [List.getElem?_take_of_lt (by omega), Array.getElem?_toList] at h2
    rw [h2]
    unfold natC natF
    rw [List.getElem?_map, List.getElem?_eq_getElem hj, List.getD_eq_getElem?_getD, List.getElem?_eq_getElem hj]
    rfl
theorem lit3_sl {W : World} {g c : Nat} {t : TypeId} {x y z : Nat} (h : W.heap[g]? = some (.cells #[.int .i64 (x : Int), .int .i64 (y : Int), .int .i64 (z : Int)] t (0, 0))) : SlF W (.slice (some ⟨g, 0, none⟩) 3 c) 3 (natF [x, y, z]) := by
  refine ⟨_, _, rfl, fun j hj => ⟨g, rfl, (Array.getElem?_eq_some_iff.1 h).1, ?_⟩⟩
  match j, hj with
  | 0, _ => exact row_cell h rfl
  | 1, _ => exact row_cell h rfl
  | 2, _ => exact row_cell h rfl
set_option maxHeartbeats 2000000 in
set_option maxRecDepth 100000 in
theorem len_bad {W : World} {B n m : Nat} {D : LkB} {v : Nat → Int} {of : Nat → List Nat} (h : PoolS W B n m D v of) {l : Int} (e : listE m l = 7) : Calls Try.prog 14 #[.pointer (some ⟨B, 0, none⟩), .int .i64 l] W (OkEq (TwoI 0 7) W) := by
  obtain ⟨F, hp, hr⟩ := h
  have C := checkList_any hp l
  rw [e] at C
  have C := Lib.hid C
  clear hp hr e
  go_enter Try.func14, Try.ntmps14
  go_wp2_with fail
  refine C.out.mono ?_
  rintro e w1 ⟨rfl, rfl⟩
  go_wp2_with fail
  go_ret2
  exact ⟨rfl, rfl⟩
def k5X : LkX := takeX 3 2 t3X.v t3X.of 0
def k6X : LkX := pushX 3 2 k5X.v k5X.of 1 4 true
theorem k5r : k5X.r = .tuple #[.int .i64 7, .int .i64 0] := by kernel_rfl
theorem k6r : k6X.r = .tuple #[.int .i64 0, .int .i64 0] := by kernel_rfl
theorem k6s : stepW 3 2 k6X.of 2 true = .tuple #[.int .i64 0, .int .i64 9] := by kernel_rfl
theorem k6w : whereW 3 2 k6X.of 0 = .tuple #[.int .i64 1, .int .i64 0] := by kernel_rfl
theorem k3f : allL 2 t3X.of 0 false = [0, 2, 1] := by kernel_rfl
theorem k3b : allL 2 t3X.of 0 true = [1, 2, 0] := by kernel_rfl
set_option maxHeartbeats 4000000 in
set_option maxRecDepth 100000 in
theorem known_walk (W : World) : Calls Try.prog 8 #[] W (TruePost W) := by
  have CT := Lib.hid (three_any W)
  have CA := Lib.hid awake_any
  go_enter Try.func8, Try.ntmps8
  go_wp2_with fail
  refine CT.out.mono ?_
  rintro e w3 ⟨B, D, rfl, Q3⟩
  have C1 := walked_any Q3.pool 0 false
  rw [k3f] at C1
  have C1 := Lib.hid C1
  have H3 := Lib.hid Q3
  clear Q3 CT
  go_wp2_with fail
  refine C1.out.mono ?_
  rintro e w4 ⟨v4, rfl, hb4, ho4⟩
  have H4 := Lib.hid (H3.out.keep hb4)
  have C2 := Lib.hid (sameInts_any (((own_sl ho4).below ((Below.refl _ _).alloc (Nat.le_refl _) _))) (lit3_sl (c := 3) (heap_alloc_new w4 (.cells #[.int .i64 0, .int .i64 2, .int .i64 1] 3))) (by decide))
  clear hb4 ho4 C1 H3
  go_wp2_with fail
  refine C2.out.mono ?_
  rintro e w5 ⟨rfl, hb5⟩
  have Q5 := H4.out.keep (((Below.refl _ _).alloc (Nat.le_refl _) (.cells #[.int .i64 0, .int .i64 2, .int .i64 1] 3)).trans (hb5.mono (by simp)))
  have C3 := walked_any Q5.pool 0 true
  rw [k3b] at C3
  have C3 := Lib.hid C3
  have H5 := Lib.hid Q5
  clear Q5 hb5 H4 C2
  go_wp2_with fail
  refine C3.out.mono ?_
  rintro e w6 ⟨v6, rfl, hb6, ho6⟩
  have H6 := Lib.hid (H5.out.keep hb6)
  have C4 := Lib.hid (sameInts_any (((own_sl ho6).below ((Below.refl _ _).alloc (Nat.le_refl _) _))) (lit3_sl (c := 3) (heap_alloc_new w6 (.cells #[.int .i64 1, .int .i64 2, .int .i64 0] 3))) (by decide))
  clear hb6 ho6 C3 H5
  go_wp2_with fail
  refine C4.out.mono ?_
  rintro e w7 ⟨rfl, hb7⟩
  have Q7 := H6.out.keep (((Below.refl _ _).alloc (Nat.le_refl _) (.cells #[.int .i64 1, .int .i64 2, .int .i64 0] 3)).trans (hb7.mono (by simp)))
  have C5 := Lib.hid (take_any Q7.pool 0)
  have H7 := Lib.hid Q7
  clear Q7 hb7 H6 C4
  go_wp2_with fail
  refine C5.out.mono ?_
  rintro e w8 ⟨he, P, Bw⟩
  have Q8 := H7.out.step P Bw
  have C6 := Lib.hid (push_any Q8.pool 1 4 true)
  have H8 := Lib.hid Q8
  have er := he.trans (congrArg Ending.returned k5r)
  subst er
  clear P Q8 C5 H7 he Bw
  go_wp2_with fail
  refine C6.out.mono ?_
  rintro e w9 ⟨he, P, Bw⟩
  have Q9 := (show NewQ W w9 B 3 2 D k6X.v k6X.of from H8.out.step P Bw)
  have C7 := step_st Q9.pool 2 true
  rw [k6s] at C7
  have C7 := Lib.hid C7
  have C8 := where_st Q9.pool 0
  rw [k6w] at C8
  have C8 := Lib.hid C8
  have C9 := Lib.hid (len_bad Q9.pool (l := 2) (by decide))
  have H9 := Lib.hid Q9.old
  have er := he.trans (congrArg Ending.returned k6r)
  subst er
  clear P Q9 C6 H8 he Bw
  go_wp2_with fail
  refine C7.out.mono ?_
  rintro e w10 ⟨rfl, rfl⟩
  go_wp2_with fail
  refine C8.out.mono ?_
  rintro e w11 ⟨rfl, rfl⟩
  go_wp2_with fail
  refine C9.out.mono ?_
  rintro e w12 ⟨rfl, rfl⟩
  unfold TwoI
  go_wp2_with fail
  refine (CA.out _).mono ?_
  rintro e w13 ⟨rfl, hb⟩
  go_wp2_with fail
  go_ret
  exact ⟨rfl, H9.out.trans (hb.mono H9.out.size)⟩
end Go.Proofs.Ytmelcohfjonjfaa
