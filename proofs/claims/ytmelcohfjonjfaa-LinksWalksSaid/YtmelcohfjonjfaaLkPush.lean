/- links: Push, After, Take, Move. -/
import Derived.Test.YtmelcohfjonjfaaLkState
namespace Go.Proofs.Ytmelcohfjonjfaa
open Go.RowKit

theorem fillX_two (n m : Nat) (v : Nat → Int) (of : Nat → List Nat) (z : Int) (i : Nat) (l r : List Nat) : ∃ a c : Int, (fillX n m v of z i l r).r = .tuple #[.int .i64 a, .int .i64 c] := by
  unfold fillX
  by_cases h : freeS n m of = -1
  · rw [if_pos h]; exact ⟨_, _, rfl⟩
  · rw [if_neg h]; exact ⟨_, _, rfl⟩
def pushX (n m : Nat) (v : Nat → Int) (of : Nat → List Nat) (l z : Int) (front : Bool) : LkX :=
  if listE m l = 0 then (if front then fillX n m v of z l.toNat [] (of l.toNat) else fillX n m v of z l.toNat (of l.toNat) []) else ⟨TwoI 0 7, v, of⟩
set_option maxHeartbeats 2000000 in
set_option maxRecDepth 100000 in
theorem push_any {W : World} {B n m : Nat} {D : LkB} {v : Nat → Int} {of : Nat → List Nat} (h : PoolS W B n m D v of) (l z : Int) (front : Bool) :
    Calls Try.prog 12 #[.pointer (some ⟨B, 0, none⟩), .int .i64 l, .int .i64 z, .bool front] W (StPost B n m D (pushX n m v of l z front) W) := by
  obtain ⟨F, hp, hr⟩ := h
  have C := Lib.hid (checkList_any hp l)
  unfold pushX
  rcases listE_cases m l with ⟨e, _⟩ | ⟨e, k, rfl, hk⟩
  · rw [e] at C ⊢
    rw [if_neg (by decide)]
    have H := Lib.hid hp
    have HR := Lib.hid hr
    clear hp hr e
    go_enter Try.func12, Try.ntmps12
    go_wp2_with fail
    refine C.out.mono ?_
    rintro e w1 ⟨rfl, rfl⟩
    go_wp2_with fail
    go_ret2
    exact ⟨rfl, ⟨F, H.out, HR.out⟩, BelowS.refl _ _ _⟩
  · rw [e] at C ⊢
    rw [if_pos rfl, toNat_cast]
    have CB := before_any hp k hk front
    have el : (if front = true then (-1 : Int) else F.last k) = lst (if front then [] else of k) := by
      cases front
      · exact (hr.ends k hk).2
      · rfl
    rw [el] at CB
    have CB := Lib.hid CB
    obtain ⟨X, eX⟩ : ∃ X, X = (if front = true then fillX n m v of z k [] (of k) else fillX n m v of z k (of k) []) := ⟨_, rfl⟩
    have CF : Calls Try.prog 42 #[.pointer (some ⟨B, 0, none⟩), .int .i64 (k : Int), .int .i64 (lst (if front then [] else of k)), .int .i64 z] W (StPost B n m D X W) := by
      rw [eX]
      cases front
      · exact fill_st hp hr hk (l := of k) (r := []) (List.append_nil _).symm z
      · exact fill_st hp hr hk (l := []) (r := of k) rfl z
    have hX : ∃ a c : Int, X.r = .tuple #[.int .i64 a, .int .i64 c] := by
      rw [eX]
      cases front
      · exact fillX_two ..
      · exact fillX_two ..
    rw [← eX]
    have CF := Lib.hid CF
    generalize lst (if front = true then [] else of k) = b at CB CF
    clear hp hr e eX el hk
    go_enter Try.func12, Try.ntmps12
    go_wp2_with fail
    refine C.out.mono ?_
    rintro e w1 ⟨rfl, rfl⟩
    go_wp2_with fail
    refine CB.out.mono ?_
    rintro e w2 ⟨rfl, rfl⟩
    go_wp2_with fail
    refine CF.out.mono ?_
    rintro e w3 ⟨rfl, P, Bw⟩
    obtain ⟨X1, X2, X3⟩ := X
    obtain ⟨a, c, rfl⟩ := hX
    go_wp2_with fail
    go_ret2
    exact ⟨rfl, P, Bw⟩
end Go.Proofs.Ytmelcohfjonjfaa
