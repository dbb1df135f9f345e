/- links: End, Step. -/
import Derived.Test.YtnbniflljbbpbaaLkReads
namespace Go.Proofs.Ytnbniflljbbpbaa
open Go.RowKit

/-- A slot and an error code: none is 0 with this code. -/
def orNone (c y : Int) : Value := if y = -1 then TwoI 0 c else TwoI y 0
def endV (m : Nat) (F : LkF) (l : Int) (front : Bool) : Value := if listE m l = 0 then orNone 4 (if front then F.first l.toNat else F.last l.toNat) else TwoI 0 7
def stepV (n : Nat) (F : LkF) (x : Int) (back : Bool) : Value := if slotE n F x = 0 then orNone 9 (if back then F.prev x.toNat else F.next x.toNat) else TwoI 0 4
set_option maxHeartbeats 2000000 in
set_option maxRecDepth 100000 in
theorem End_any {W : World} {B n m : Nat} {D : LkB} {v : Nat → Int} {F : LkF} (h : PoolAt W B n m D v F) (l : Int) (front : Bool) :
    Calls Try.prog 51 #[.pointer (some ⟨B, 0, none⟩), .int .i64 l, .bool front] W (OkEq (endV m F l front) W) := by
  have C := Lib.hid (checkList_any h l)
  unfold endV
  rcases listE_cases m l with ⟨e, _⟩ | ⟨e, k, rfl, hk⟩
  · rw [e] at C ⊢
    rw [if_neg (by decide)]
    clear h e
    go_enter Try.func51, Try.ntmps51
    go_wp2_with fail
    refine C.out.mono ?_
    rintro e w1 ⟨rfl, rfl⟩
    go_wp2_with fail
    go_ret2
    exact ⟨rfl, rfl⟩
  · rw [e] at C ⊢
    rw [if_pos rfl, toNat_cast]
    have CE := Lib.hid (end_any h k hk front)
    generalize (if front = true then F.first k else F.last k) = y at CE ⊢
    unfold orNone
    by_cases hy : y = -1
    · subst hy
      rw [if_pos rfl]
      clear h e
      go_enter Try.func51, Try.ntmps51
      go_wp2_with fail
      refine C.out.mono ?_
      rintro e w1 ⟨rfl, rfl⟩
      go_wp2_with fail
      refine CE.out.mono ?_
      rintro e w2 ⟨rfl, rfl⟩
      go_wp2_with fail
      go_ret2
      exact ⟨rfl, rfl⟩
    · rw [if_neg hy]
      have t1 : (y == -1) = false := beq_eq_false_iff_ne.2 hy
      clear h e hy
      go_enter Try.func51, Try.ntmps51
      go_wp2_with fail
      refine C.out.mono ?_
      rintro e w1 ⟨rfl, rfl⟩
      go_wp2_with fail
      refine CE.out.mono ?_
      rintro e w2 ⟨rfl, rfl⟩
      go_wp2_with fail
      go_ret2
      exact ⟨rfl, rfl⟩
set_option maxHeartbeats 2000000 in
set_option maxRecDepth 100000 in
theorem Step_any {W : World} {B n m : Nat} {D : LkB} {v : Nat → Int} {F : LkF} (h : PoolAt W B n m D v F) (x : Int) (back : Bool) :
    Calls Try.prog 35 #[.pointer (some ⟨B, 0, none⟩), .int .i64 x, .bool back] W (OkEq (stepV n F x back) W) := by
  have C := Lib.hid (checkSlot_any h x)
  unfold stepV
  rcases slotE_cases n F x with ⟨e, _⟩ | ⟨e, k, rfl, hk, _⟩
  · rw [e] at C ⊢
    rw [if_neg (by decide)]
    clear h e
    go_enter Try.func35, Try.ntmps35
    go_wp2_with fail
    refine C.out.mono ?_
    rintro e w1 ⟨rfl, rfl⟩
    go_wp2_with fail
    go_ret2
    exact ⟨rfl, rfl⟩
  · rw [e] at C ⊢
    rw [if_pos rfl, toNat_cast]
    have CE := Lib.hid (step_any h k hk back)
    generalize (if back = true then F.prev k else F.next k) = y at CE ⊢
    unfold orNone
    by_cases hy : y = -1
    · subst hy
      rw [if_pos rfl]
      clear h e
      go_enter Try.func35, Try.ntmps35
      go_wp2_with fail
      refine C.out.mono ?_
      rintro e w1 ⟨rfl, rfl⟩
      go_wp2_with fail
      refine CE.out.mono ?_
      rintro e w2 ⟨rfl, rfl⟩
      go_wp2_with fail
      go_ret2
      exact ⟨rfl, rfl⟩
    · rw [if_neg hy]
      have t1 : (y == -1) = false := beq_eq_false_iff_ne.2 hy
      clear h e hy
      go_enter Try.func35, Try.ntmps35
      go_wp2_with fail
      refine C.out.mono ?_
      rintro e w1 ⟨rfl, rfl⟩
      go_wp2_with fail
      refine CE.out.mono ?_
      rintro e w2 ⟨rfl, rfl⟩
      go_wp2_with fail
      go_ret2
      exact ⟨rfl, rfl⟩
end Go.Proofs.Ytnbniflljbbpbaa
