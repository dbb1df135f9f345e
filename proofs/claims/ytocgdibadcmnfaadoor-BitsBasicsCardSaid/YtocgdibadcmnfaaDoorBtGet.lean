/- bits: checkRun, Get, Count. -/
import Derived.Test.YtocgdibadcmnfaaDoorBtCheck
import Derived.Test.YtocgdibadcmnfaaDoorBtZeros
namespace Go.Proofs.YtocgdibadcmnfaaDoor
open Go.RowKit

theorem bcell {W w1 : World} (hb : Below W.heap.size W w1) : (∀ b o, b < W.heap.size → w1.cell? ⟨b, o, none⟩ = W.cell? ⟨b, o, none⟩) ∧ (∀ b o, b < W.heap.size → w1.frozen? ⟨b, o, none⟩ = W.frozen? ⟨b, o, none⟩) :=
  ⟨fun b o h => hb.cell (p := ⟨b, o, none⟩) h, fun b o h => hb.frozen (p := ⟨b, o, none⟩) h⟩
/-- What checkRun returns. -/
def runR (n : Int) (ws : List Nat) (a b : Int) : Int := if checkR n ws ≠ 0 then checkR n ws else if a < 0 ∨ b < a ∨ n < b then 7 else 0
def ErrPost (c : Int) (w : World) (e : Ending) (w' : World) : Prop := e = .returned (.int .i64 c) ∧ Below w.heap.size w w'
theorem errPost_mk {c d : Int} {w w' : World} (h : c = d) (hb : Below w.heap.size w w') : ErrPost c w (.returned (.int .i64 d)) w' := ⟨by rw [h], hb⟩
theorem drewB (b n : Nat) (W : World) : Below b W (W.drewN n) := ⟨rfl, rfl, rfl, Nat.le_refl _, fun _ _ => rfl⟩
theorem boxB {w w1 : World} {o : Obj} (hb : Below (w.alloc o).heap.size (w.alloc o) w1) : Below w.heap.size w w1 :=
  ((Below.refl _ _).alloc (Nat.le_refl _) o).trans (hb.mono (by simp))
theorem neq0 {c : Int} (h : c ≠ 0) : (c != 0) = true ∧ (c == 0) = false := ⟨by rw [bne_iff_ne]; exact h, beq_eq_false_iff_ne.2 h⟩

set_option maxHeartbeats 1000000 in
set_option maxRecDepth 100000 in
theorem checkRun_any (n : Int) (p : Option Addr) (cap : Nat) (ws : List Nat) (a b : Int) (w : World) (h : WordsAt w p ws) :
    Calls Tryd.prog 56 #[.agg #[.int .i64 n, .slice p ws.length cap], .int .i64 a, .int .i64 b] w (ErrPost (runR n ws a b) w) := by
  have ck := fun W (hW : Below w.heap.size w W) => check_any n p cap ws W (h.below hW)
  have e : runR n ws a b = if checkR n ws ≠ 0 then checkR n ws else if a < 0 ∨ b < a ∨ n < b then 7 else 0 := rfl
  generalize checkR n ws = c at ck e
  generalize runR n ws a b = r at e
  have CK := Lib.hid ck; clear ck h
  by_cases hc : c ≠ 0
  · rw [if_pos hc] at e
    obtain ⟨t1, t2⟩ := neq0 hc
    have E := Lib.hid e; clear e hc
    go_enter Tryd.func56, Tryd.ntmps56
    go_wp2_with (go_at_call 19; refine (CK.out _ ((Below.refl _ _).alloc (Nat.le_refl _) _)).mono ?_; rintro e w1 ⟨rfl, hb⟩; have HB := Lib.hid (boxB hb); clear hb)
    go_ret
    exact errPost_mk E.out HB.out
  · rw [if_neg hc] at e
    obtain rfl : c = 0 := Classical.not_not.1 hc
    clear hc
    by_cases h1 : a < 0
    · rw [if_pos (.inl h1)] at e
      have E := Lib.hid e; clear e
      go_enter Tryd.func56, Tryd.ntmps56
      go_wp2_with (go_at_call 19; refine (CK.out _ ((Below.refl _ _).alloc (Nat.le_refl _) _)).mono ?_; rintro e w1 ⟨rfl, hb⟩; have HB := Lib.hid (boxB hb); clear hb)
      go_ret
      exact errPost_mk E.out HB.out
    · by_cases h2 : b < a
      · rw [if_pos (.inr (.inl h2))] at e
        have E := Lib.hid e; clear e
        go_enter Tryd.func56, Tryd.ntmps56
        go_wp2_with (go_at_call 19; refine (CK.out _ ((Below.refl _ _).alloc (Nat.le_refl _) _)).mono ?_; rintro e w1 ⟨rfl, hb⟩; have HB := Lib.hid (boxB hb); clear hb)
        go_ret
        exact errPost_mk E.out HB.out
      · by_cases h3 : n < b
        · rw [if_pos (.inr (.inr h3))] at e
          have E := Lib.hid e; clear e
          go_enter Tryd.func56, Tryd.ntmps56
          go_wp2_with (go_at_call 19; refine (CK.out _ ((Below.refl _ _).alloc (Nat.le_refl _) _)).mono ?_; rintro e w1 ⟨rfl, hb⟩; have HB := Lib.hid (boxB hb); obtain ⟨hcell, hfz⟩ := bcell hb; clear hb)
          go_ret
          exact errPost_mk E.out HB.out
        · rw [if_neg (by omega)] at e
          have E := Lib.hid e; clear e
          go_enter Tryd.func56, Tryd.ntmps56
          go_wp2_with (go_at_call 19; refine (CK.out _ ((Below.refl _ _).alloc (Nat.le_refl _) _)).mono ?_; rintro e w1 ⟨rfl, hb⟩; have HB := Lib.hid (boxB hb); obtain ⟨hcell, hfz⟩ := bcell hb; clear hb)
          go_ret
          exact errPost_mk E.out HB.out
end Go.Proofs.YtocgdibadcmnfaaDoor
