/- links: fill, Push, After, Take, Move. -/
import Derived.Test.YtnbniflljbbpbaaLkWipe
namespace Go.Proofs.Ytnbniflljbbpbaa
open Go.RowKit

theorem idxF_cases (f : Nat → Int) (x : Int) : ∀ (n i : Nat), (idxF f x i n = -1 ∧ ∀ j, i ≤ j → j < i + n → f j ≠ x) ∨ ∃ k : Nat, idxF f x i n = (k : Int) ∧ i ≤ k ∧ k < i + n ∧ f k = x ∧ ∀ j, i ≤ j → j < k → f j ≠ x
  | 0, i => .inl ⟨rfl, fun j h1 h2 => by omega⟩
  | n + 1, i => by
    unfold idxF
    by_cases h : x = f i
    · exact .inr ⟨i, if_pos h, Nat.le_refl _, by omega, h.symm, fun j h1 h2 => by omega⟩
    · rw [if_neg h]
      rcases idxF_cases f x n (i + 1) with ⟨e, h2⟩ | ⟨k, e, h1, h2, h3, h4⟩
      · refine .inl ⟨e, fun j j1 j2 => ?_⟩
        rcases Nat.lt_or_ge i j with hj | hj
        · exact h2 j (by omega) (by omega)
        · obtain rfl : j = i := by omega
          exact fun e => h e.symm
      · refine .inr ⟨k, e, by omega, by omega, h3, fun j j1 j2 => ?_⟩
        rcases Nat.lt_or_ge i j with hj | hj
        · exact h4 j (by omega) (by omega)
        · obtain rfl : j = i := by omega
          exact fun e => h e.symm
def fillS (n : Nat) (F : LkF) : Int := idxF F.list (-1) 0 n
def fillR (n : Nat) (F : LkF) : Value := if fillS n F = -1 then TwoI 0 5 else TwoI (fillS n F) 0
def fillV (n : Nat) (v : Nat → Int) (F : LkF) (z : Int) : Nat → Int := if fillS n F = -1 then v else updF v (fillS n F).toNat z
def fillF (n : Nat) (F : LkF) (l : Nat) (b : Int) : LkF := if fillS n F = -1 then F else linkF F (fillS n F).toNat l b
set_option maxHeartbeats 4000000 in
set_option maxRecDepth 100000 in
theorem fill_any {W : World} {B n m : Nat} {D : LkB} {v : Nat → Int} {F : LkF} (h : PoolAt W B n m D v F) (l : Nat) (hl : l < m) (b : Int) (hb : SlotOr n b) (ha : SlotOr n (if b = -1 then F.first l else F.next b.toNat)) (z : Int) :
    Calls Try.prog 42 #[.pointer (some ⟨B, 0, none⟩), .int .i64 (l : Int), .int .i64 b, .int .i64 z] W (PutPost B n m D (fillV n v F z) (fillF n F l b) W (fillR n F)) := by
  obtain ⟨c0, c1, c2, c3, c4, c5, c6⟩ := h.cells
  have CI := Lib.hid (index_any (c := D.cl) h.rl h.nn.2 (-1))
  rw [show idxF F.list (-1) 0 n = fillS n F from rfl] at CI
  unfold fillV fillF fillR
  rcases idxF_cases F.list (-1) n 0 with ⟨e, _⟩ | ⟨k, e, _, hk, _, _⟩
  · rw [show fillS n F = -1 from e] at CI ⊢
    rw [if_pos rfl, if_pos rfl, if_pos rfl]
    have H := Lib.hid h
    clear h hl hb ha e
    go_enter Try.func42, Try.ntmps42
    go_wp2_with fail
    refine CI.out.mono ?_
    rintro e w1 ⟨rfl, rfl⟩
    go_wp2_with fail
    go_ret2
    exact ⟨rfl, H.out, BelowS.refl _ _ _⟩
  · rw [show fillS n F = (k : Int) from e] at CI ⊢
    rw [if_neg (ne_none k), if_neg (ne_none k), if_neg (ne_none k), toNat_cast]
    have hk' : k < n := by omega
    obtain ⟨y0, y1⟩ := h.rv.get hk'
    have k0 : (0 : Int) ≤ k := by omega
    have k1 : (k : Int) < n := by omega
    have k2 : ¬ (k : Int) < 0 := by omega
    have P1 := h.setVal hk' z
    have CL := Lib.hid (link_any P1 k hk' l hl b hb ha)
    have HB := Lib.hid ((BelowS.refl D.S W.heap.size W).cell (show D.S D.v from .inl rfl) k (.int .i64 z))
    clear h hl hb ha e hk hk' P1
    go_enter Try.func42, Try.ntmps42
    go_wp2_with fail
    refine CI.out.mono ?_
    rintro e w1 ⟨rfl, rfl⟩
    go_wp2_with fail
    refine CL.out.mono ?_
    rintro e w2 ⟨rfl, P2, B2⟩
    go_wp2_with fail
    go_ret2
    exact ⟨rfl, P2, HB.out.to B2 (Nat.le_refl _)⟩
/-- The pool as the lists of its slots. -/
def PoolS (W : World) (B n m : Nat) (D : LkB) (v : Nat → Int) (of : Nat → List Nat) : Prop := ∃ F, PoolAt W B n m D v F ∧ Rep n m of F
end Go.Proofs.Ytnbniflljbbpbaa
