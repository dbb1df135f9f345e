/- links: Get, Where, End, Step, Put of a pool as values and lists. -/
import Derived.Test.YtnbniflljbbpbaaLkMove
namespace Go.Proofs.Ytnbniflljbbpbaa
open Go.RowKit

def getW (n m : Nat) (v : Nat → Int) (of : Nat → List Nat) (x : Int) : Value := if slotW n m of x = 0 then TwoI (v x.toNat) 0 else TwoI 0 4
def whereW (n m : Nat) (of : Nat → List Nat) (x : Int) : Value := if slotW n m of x = 0 then TwoI (whr m of x.toNat) 0 else TwoI 0 4
def endW (m : Nat) (of : Nat → List Nat) (l : Int) (front : Bool) : Value := if listE m l = 0 then orNone 4 (if front then hd (of l.toNat) else lst (of l.toNat)) else TwoI 0 7
def stepW (n m : Nat) (of : Nat → List Nat) (x : Int) (back : Bool) : Value :=
  if slotW n m of x = 0 then orNone 9 (if back then pv (of (whr m of x.toNat).toNat) x.toNat else nx (of (whr m of x.toNat).toNat) x.toNat) else TwoI 0 4
def putX (n m : Nat) (v : Nat → Int) (of : Nat → List Nat) (x z : Int) : LkX := ⟨.int .i64 (slotW n m of x), if slotW n m of x = 0 then updF v x.toNat z else v, of⟩
theorem get_st {W : World} {B n m : Nat} {D : LkB} {v : Nat → Int} {of : Nat → List Nat} (h : PoolS W B n m D v of) (x : Int) :
    Calls Try.prog 13 #[.pointer (some ⟨B, 0, none⟩), .int .i64 x] W (OkEq (getW n m v of x) W) := by
  obtain ⟨F, hp, hr⟩ := h
  have C := get_any hp x
  unfold getI at C
  unfold getW
  rw [slotE_eq hr] at C
  rcases slotW_cases n m of x with e | ⟨e, _⟩
  · rw [e, if_neg (by decide)] at C
    rw [e, if_neg (by decide)]
    exact C
  · rw [e, if_pos rfl] at C
    rw [e, if_pos rfl]
    exact C
theorem where_st {W : World} {B n m : Nat} {D : LkB} {v : Nat → Int} {of : Nat → List Nat} (h : PoolS W B n m D v of) (x : Int) :
    Calls Try.prog 37 #[.pointer (some ⟨B, 0, none⟩), .int .i64 x] W (OkEq (whereW n m of x) W) := by
  obtain ⟨F, hp, hr⟩ := h
  have C := where_any hp x
  unfold whereI at C
  unfold whereW
  rw [slotE_eq hr] at C
  rcases slotW_cases n m of x with e | ⟨e, k, i, rfl, hk, _⟩
  · rw [e, if_neg (by decide)] at C
    rw [e, if_neg (by decide)]
    exact C
  · rw [e, if_pos rfl, toNat_cast, rep_list hr hk] at C
    rw [e, if_pos rfl, toNat_cast]
    exact C
theorem end_st {W : World} {B n m : Nat} {D : LkB} {v : Nat → Int} {of : Nat → List Nat} (h : PoolS W B n m D v of) (l : Int) (front : Bool) :
    Calls Try.prog 51 #[.pointer (some ⟨B, 0, none⟩), .int .i64 l, .bool front] W (OkEq (endW m of l front) W) := by
  obtain ⟨F, hp, hr⟩ := h
  have C := End_any hp l front
  unfold endV at C
  unfold endW
  rcases listE_cases m l with ⟨e, _⟩ | ⟨e, k, rfl, hk⟩
  · rw [e, if_neg (by decide)] at C ⊢
    exact C
  · rw [e, if_pos rfl, toNat_cast] at C ⊢
    rw [(hr.ends k hk).1, (hr.ends k hk).2] at C
    exact C
theorem step_st {W : World} {B n m : Nat} {D : LkB} {v : Nat → Int} {of : Nat → List Nat} (h : PoolS W B n m D v of) (x : Int) (back : Bool) :
    Calls Try.prog 35 #[.pointer (some ⟨B, 0, none⟩), .int .i64 x, .bool back] W (OkEq (stepW n m of x back) W) := by
  obtain ⟨F, hp, hr⟩ := h
  have C := Step_any hp x back
  unfold stepV at C
  unfold stepW
  rw [slotE_eq hr] at C
  rcases slotW_cases n m of x with e | ⟨e, k, i, rfl, hk, ew, hi, hs⟩
  · rw [e, if_neg (by decide)] at C
    rw [e, if_neg (by decide)]
    exact C
  · rw [e, if_pos rfl, toNat_cast] at C
    rw [e, if_pos rfl, toNat_cast, ew, toNat_cast]
    obtain ⟨_, h2, h3⟩ := hr.used i hi k (by rw [hs]; simp)
    rw [h2, h3] at C
    exact C
theorem put_st {W : World} {B n m : Nat} {D : LkB} {v : Nat → Int} {of : Nat → List Nat} (h : PoolS W B n m D v of) (x z : Int) :
    Calls Try.prog 15 #[.pointer (some ⟨B, 0, none⟩), .int .i64 x, .int .i64 z] W (StPost B n m D (putX n m v of x z) W) := by
  obtain ⟨F, hp, hr⟩ := h
  refine (put_any hp x z).mono ?_
  rintro e w1 ⟨rfl, P, Bw⟩
  unfold putV at P
  rw [slotE_eq hr] at P ⊢
  exact ⟨rfl, ⟨F, P, hr⟩, Bw⟩
end Go.Proofs.Ytnbniflljbbpbaa
