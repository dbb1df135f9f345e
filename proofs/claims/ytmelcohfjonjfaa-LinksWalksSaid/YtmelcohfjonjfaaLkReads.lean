/- links: Get, Put, Where, End, Step. links: End, Step. -/
import Derived.Test.YtmelcohfjonjfaaLkUnlink
namespace Go.Proofs.Ytmelcohfjonjfaa
open Go.RowKit

theorem slotE_cases (n : Nat) (F : LkF) (x : Int) : (slotE n F x = 4 ∧ (x < 0 ∨ (n : Int) ≤ x ∨ F.list x.toNat = -1)) ∨ (slotE n F x = 0 ∧ ∃ k : Nat, x = (k : Int) ∧ k < n ∧ F.list k ≠ -1) := by
  unfold slotE
  by_cases h : x < 0 ∨ (n : Int) ≤ x ∨ F.list x.toNat = -1
  · exact .inl ⟨if_pos h, h⟩
  · refine .inr ⟨if_neg h, x.toNat, ?_, ?_, ?_⟩ <;> omega
theorem listE_cases (m : Nat) (l : Int) : (listE m l = 7 ∧ (l < 0 ∨ (m : Int) ≤ l)) ∨ (listE m l = 0 ∧ ∃ k : Nat, l = (k : Int) ∧ k < m) := by
  unfold listE
  by_cases h : l < 0 ∨ (m : Int) ≤ l
  · exact .inl ⟨if_pos h, h⟩
  · exact .inr ⟨if_neg h, l.toNat, by omega, by omega⟩
/-- A number and an error code. -/
def TwoI (a b : Int) : Value := .tuple #[.int .i64 a, .int .i64 b]
def getI (n : Nat) (v : Nat → Int) (F : LkF) (x : Int) : Int := if slotE n F x = 0 then v x.toNat else 0
def whereI (n : Nat) (F : LkF) (x : Int) : Int := if slotE n F x = 0 then F.list x.toNat else 0
set_option maxHeartbeats 2000000 in
set_option maxRecDepth 100000 in
theorem get_any {W : World} {B n m : Nat} {D : LkB} {v : Nat → Int} {F : LkF} (h : PoolAt W B n m D v F) (x : Int) :
    Calls Try.prog 13 #[.pointer (some ⟨B, 0, none⟩), .int .i64 x] W (OkEq (TwoI (getI n v F x) (slotE n F x)) W) := by
  obtain ⟨c0, c1, c2, c3, c4, c5, c6⟩ := h.cells
  have C := Lib.hid (checkSlot_any h x)
  unfold getI
  rcases slotE_cases n F x with ⟨e, _⟩ | ⟨e, k, rfl, hk, _⟩
  · rw [e] at C ⊢
    rw [if_neg (by decide)]
    clear h e
    go_enter Try.func13, Try.ntmps13
    go_wp2_with fail
    refine C.out.mono ?_
    rintro e w1 ⟨rfl, rfl⟩
    go_wp2_with fail
    go_ret2
    exact ⟨rfl, rfl⟩
  · rw [e] at C ⊢
    rw [if_pos rfl, toNat_cast]
    obtain ⟨y0, _⟩ := h.rv.get hk
    have j0 : (0 : Int) ≤ k := by omega
    have j1 : (k : Int) < n := by omega
    clear h e
    go_enter Try.func13, Try.ntmps13
    go_wp2_with fail
    refine C.out.mono ?_
    rintro e w1 ⟨rfl, rfl⟩
    go_wp2_with fail
    go_ret2
    exact ⟨rfl, rfl⟩
set_option maxHeartbeats 2000000 in
set_option maxRecDepth 100000 in
theorem where_any {W : World} {B n m : Nat} {D : LkB} {v : Nat → Int} {F : LkF} (h : PoolAt W B n m D v F) (x : Int) :
    Calls Try.prog 37 #[.pointer (some ⟨B, 0, none⟩), .int .i64 x] W (OkEq (TwoI (whereI n F x) (slotE n F x)) W) := by
  obtain ⟨c0, c1, c2, c3, c4, c5, c6⟩ := h.cells
  have C := Lib.hid (checkSlot_any h x)
  unfold whereI
  rcases slotE_cases n F x with ⟨e, _⟩ | ⟨e, k, rfl, hk, _⟩
  · rw [e] at C ⊢
    rw [if_neg (by decide)]
    clear h e
    go_enter Try.func37, Try.ntmps37
    go_wp2_with fail
    refine C.out.mono ?_
    rintro e w1 ⟨rfl, rfl⟩
    go_wp2_with fail
    go_ret2
    exact ⟨rfl, rfl⟩
  · rw [e] at C ⊢
    rw [if_pos rfl, toNat_cast]
    obtain ⟨y0, _⟩ := h.rl.get hk
    have j0 : (0 : Int) ≤ k := by omega
    have j1 : (k : Int) < n := by omega
    clear h e
    go_enter Try.func37, Try.ntmps37
    go_wp2_with fail
    refine C.out.mono ?_
    rintro e w1 ⟨rfl, rfl⟩
    go_wp2_with fail
    go_ret2
    exact ⟨rfl, rfl⟩
/-- What Put leaves. -/
def PutPost (B n m : Nat) (D : LkB) (v : Nat → Int) (F : LkF) (W : World) (r : Value) (e : Ending) (W' : World) : Prop := e = .returned r ∧ PoolAt W' B n m D v F ∧ BelowS D.S W.heap.size W W'
def putV (n : Nat) (v : Nat → Int) (F : LkF) (x z : Int) : Nat → Int := if slotE n F x = 0 then updF v x.toNat z else v
set_option maxHeartbeats 2000000 in
set_option maxRecDepth 100000 in
theorem put_any {W : World} {B n m : Nat} {D : LkB} {v : Nat → Int} {F : LkF} (h : PoolAt W B n m D v F) (x z : Int) :
    Calls Try.prog 15 #[.pointer (some ⟨B, 0, none⟩), .int .i64 x, .int .i64 z] W (PutPost B n m D (putV n v F x z) F W (.int .i64 (slotE n F x))) := by
  obtain ⟨c0, c1, c2, c3, c4, c5, c6⟩ := h.cells
  have C := Lib.hid (checkSlot_any h x)
  unfold putV
  rcases slotE_cases n F x with ⟨e, _⟩ | ⟨e, k, rfl, hk, _⟩
  · rw [e] at C ⊢
    rw [if_neg (by decide)]
    have H := Lib.hid h
    clear h e
    go_enter Try.func15, Try.ntmps15
    go_wp2_with fail
    refine C.out.mono ?_
    rintro e w1 ⟨rfl, rfl⟩
    go_wp2_with fail
    go_ret
    exact ⟨rfl, H.out, BelowS.refl _ _ _⟩
  · rw [e] at C ⊢
    rw [if_pos rfl, toNat_cast]
    obtain ⟨y0, y1⟩ := h.rv.get hk
    have H := Lib.hid (h.setVal hk z)
    have HB := Lib.hid ((BelowS.refl D.S W.heap.size W).cell (show D.S D.v from .inl rfl) k (.int .i64 z))
    have j0 : (0 : Int) ≤ k := by omega
    have j1 : (k : Int) < n := by omega
    clear h e
    go_enter Try.func15, Try.ntmps15
    go_wp2_with fail
    refine C.out.mono ?_
    rintro e w1 ⟨rfl, rfl⟩
    go_wp2_with fail
    go_ret
    exact ⟨rfl, H.out, HB.out⟩
end Go.Proofs.Ytmelcohfjonjfaa
namespace Go.Proofs.Ytmelcohfjonjfaa
open Go.RowKit

/-- A slot and an error code: none is 0 with this code. -/
def orNone (c y : Int) : Value := if y = -1 then TwoI 0 c else TwoI y 0
def endV (m : Nat) (F : LkF) (l : Int) (front : Bool) : Value := if listE m l = 0 then orNone 4 (if front then F.first l.toNat else F.last l.toNat) else TwoI 0 7
def stepV (n : Nat) (F : LkF) (x : Int) (back : Bool) : Value := if slotE n F x = 0 then orNone 9 (if back then F.prev x.toNat else F.next x.toNat) else TwoI 0 4
set_option maxHeartbeats 2000000 in
set_option maxRecDepth 100000 in
theorem End_any {W : World} {B n m : Nat} {D : LkB} {v : Nat → Int} {F : LkF} (h : PoolAt W B n m D v F) (l : Int) (front : Bool) :
    Calls Try.prog 51 #[.pointer (some ⟨B, 0, none⟩), .int .i64 l, .bool front] W (OkEq (endV m F l front) W) := by
  have C := Lib.hid (checkList_any h l)
  unfold endV
  rcases listE_cases m l with ⟨e, _⟩ | ⟨e, k, rfl, hk⟩
  · rw [e] at C ⊢
    rw [if_neg (by decide)]
    clear h e
    go_enter Try.func51, Try.ntmps51
    go_wp2_with fail
    refine C.out.mono ?_
    rintro e w1 ⟨rfl, rfl⟩
    go_wp2_with fail
    go_ret2
    exact ⟨rfl, rfl⟩
  · rw [e] at C ⊢
    rw [if_pos rfl, toNat_cast]
    have CE := Lib.hid (end_any h k hk front)
    generalize (if front = true then F.first k else F.last k) = y at CE ⊢
    unfold orNone
    by_cases hy : y = -1
    · subst hy
      rw [if_pos rfl]
      clear h e
      go_enter Try.func51, Try.ntmps51
      go_wp2_with fail
      refine C.out.mono ?_
      rintro e w1 ⟨rfl, rfl⟩
      go_wp2_with fail
      refine CE.out.mono ?_
      rintro e w2 ⟨rfl, rfl⟩
      go_wp2_with fail
      go_ret2
      exact ⟨rfl, rfl⟩
    · rw [if_neg hy]
      have t1 : (y == -1) = false := beq_eq_false_iff_ne.2 hy
      clear h e hy
      go_enter Try.func51, Try.ntmps51
      go_wp2_with fail
      refine C.out.mono ?_
      rintro e w1 ⟨rfl, rfl⟩
      go_wp2_with fail
      refine CE.out.mono ?_
      rintro e w2 ⟨rfl, rfl⟩
      go_wp2_with fail
      go_ret2
      exact ⟨rfl, rfl⟩
set_option maxHeartbeats 2000000 in
set_option maxRecDepth 100000 in
theorem Step_any {W : World} {B n m : Nat} {D : LkB} {v : Nat → Int} {F : LkF} (h : PoolAt W B n m D v F) (x : Int) (back : Bool) :
    Calls Try.prog 35 #[.pointer (some ⟨B, 0, none⟩), .int .i64 x, .bool back] W (OkEq (stepV n F x back) W) := by
  have C := Lib.hid (checkSlot_any h x)
  unfold stepV
  rcases slotE_cases n F x with ⟨e, _⟩ | ⟨e, k, rfl, hk, _⟩
  · rw [e] at C ⊢
    rw [if_neg (by decide)]
    clear h e
    go_enter Try.func35, Try.ntmps35
    go_wp2_with fail
    refine C.out.mono ?_
    rintro e w1 ⟨rfl, rfl⟩
    go_wp2_with fail
    go_ret2
    exact ⟨rfl, rfl⟩
  · rw [e] at C ⊢
    rw [if_pos rfl, toNat_cast]
    have CE := Lib.hid (step_any h k hk back)
    generalize (if back = true then F.prev k else F.next k) = y at CE ⊢
    unfold orNone
    by_cases hy : y = -1
    · subst hy
      rw [if_pos rfl]
      clear h e
      go_enter Try.func35, Try.ntmps35
      go_wp2_with fail
      refine C.out.mono ?_
      rintro e w1 ⟨rfl, rfl⟩
      go_wp2_with fail
      refine CE.out.mono ?_
      rintro e w2 ⟨rfl, rfl⟩
      go_wp2_with fail
      go_ret2
      exact ⟨rfl, rfl⟩
    · rw [if_neg hy]
      have t1 : (y == -1) = false := beq_eq_false_iff_ne.2 hy
      clear h e hy
      go_enter Try.func35, Try.ntmps35
      go_wp2_with fail
      refine C.out.mono ?_
      rintro e w1 ⟨rfl, rfl⟩
      go_wp2_with fail
      refine CE.out.mono ?_
      rintro e w2 ⟨rfl, rfl⟩
      go_wp2_with fail
      go_ret2
      exact ⟨rfl, rfl⟩
end Go.Proofs.Ytmelcohfjonjfaa
