/- spans: end, valid, checkList, Check. -/
import Derived.Test.YtnhbilcpdombfaaProg
import Derived.Test.YtnhbilcpdombfaaSpMath
import Derived.WalkKit
import Derived.WalkLawsBesides
import Derived.WalkSpells
import Derived.Lib.Hide
import Derived.Outline
import Derived.Deep.QuietTactic
import Derived.BigQuiet
import Derived.IntWalk
import Derived.Below
import Derived.Deep.LoopGhost
import Derived.RegionTactic
namespace Go.Proofs.Ytnhbilcpdombfaa
open Go.RowKit

theorem ret_int {k : IntKind} {a b : Int} (h : a = b) : Ending.returned (.int k a) = .returned (.int k b) := by rw [h]
theorem ret_bool {a b : Bool} (h : a = b) : Ending.returned (.bool a) = .returned (.bool b) := by rw [h]
def ErrPost (c : Int) (w : World) (e : Ending) (w' : World) : Prop := e = .returned (.int .i64 c) ∧ Below w.heap.size w w'
theorem errPost_mk {c d : Int} {w w' : World} (h : c = d) (hb : Below w.heap.size w w') : ErrPost c w (.returned (.int .i64 d)) w' := ⟨by rw [h], hb⟩
def BoolPost (c : Bool) (w : World) (e : Ending) (w' : World) : Prop := e = .returned (.bool c) ∧ Below w.heap.size w w'
theorem boolPost_mk {c d : Bool} {w w' : World} (h : c = d) (hb : Below w.heap.size w w') : BoolPost c w (.returned (.bool d)) w' := ⟨by rw [h], hb⟩
theorem drewB (b n : Nat) (W : World) : Below b W (W.drewN n) := ⟨rfl, rfl, rfl, Nat.le_refl _, fun _ _ => rfl⟩
theorem drewOne (b : Nat) (W : World) : Below b W W.drew := ⟨rfl, rfl, rfl, Nat.le_refl _, fun _ _ => rfl⟩
theorem boxB {w w1 : World} {o : Obj} (hb : Below (w.alloc o).heap.size (w.alloc o) w1) : Below w.heap.size w w1 :=
  ((Below.refl _ _).alloc (Nat.le_refl _) o).trans (hb.mono (by simp))
theorem below_next {w W W' : World} (h : Below w.heap.size w W) (k : Below W.heap.size W W') : Below w.heap.size w W' := h.trans (k.mono h.size)
theorem neq0 {c : Int} (h : c ≠ 0) : (c != 0) = true ∧ (c == 0) = false := ⟨by rw [bne_iff_ne]; exact h, beq_eq_false_iff_ne.2 h⟩

/-- Spans of whatever numbers that fit. -/
def Fits (x : Int × Int) : Prop := (-9223372036854775808 ≤ x.1 ∧ x.1 ≤ 9223372036854775807) ∧ -9223372036854775808 ≤ x.2 ∧ x.2 ≤ 9223372036854775807
/-- A slice that holds these spans. -/
structure SpsAt (W : World) (p : Option Addr) (l : List (Int × Int)) : Prop where
  len : l.length ≤ maxLen
  fit : ∀ x ∈ l, Fits x
  at_ : 0 < l.length → ∃ g off, p = some ⟨g, off, none⟩ ∧ g < W.heap.size ∧ ∀ j (h : j < l.length), W.cell? ⟨g, off + j * 2, none⟩ = some (.int .i64 (l[j]'h).1) ∧ W.cell? ⟨g, off + j * 2 + 1, none⟩ = some (.int .i64 (l[j]'h).2)
theorem SpsAt.below {w w' : World} {p : Option Addr} {l : List (Int × Int)} (h : SpsAt w p l) (hb : Below w.heap.size w w') : SpsAt w' p l :=
  ⟨h.len, h.fit, fun h0 => by
    obtain ⟨g, off, e, hg, hc⟩ := h.at_ h0
    exact ⟨g, off, e, Nat.lt_of_lt_of_le hg hb.size, fun j hj => ⟨(hb.cell (p := ⟨g, off + j * 2, none⟩) hg).trans (hc j hj).1, (hb.cell (p := ⟨g, off + j * 2 + 1, none⟩) hg).trans (hc j hj).2⟩⟩⟩
theorem SpsAt.none_ (W : World) (p : Option Addr) : SpsAt W p [] := ⟨by simp, by simp, fun h => absurd h (Nat.lt_irrefl _)⟩

/-- Is that a valid span? -/
def validR (x : Int × Int) : Bool := decide (0 ≤ x.1) && (decide (1 ≤ x.2) && decide (x.1 ≤ 1024 - x.2))
theorem validR_iff (x : Int × Int) : validR x = true ↔ 0 ≤ x.1 ∧ 1 ≤ x.2 ∧ x.1 + x.2 ≤ 1024 := by
  unfold validR; simp; omega
set_option maxRecDepth 100000 in
theorem end_any (a b : Int) (w : World) (h : -9223372036854775808 ≤ a + b ∧ a + b ≤ 9223372036854775807) : Calls Try.prog 52 #[.agg #[.int .i64 a, .int .i64 b]] w fun e w' => e = .returned (.int .i64 (a + b)) ∧ Below w.heap.size w w' := by
  have e1 : IntKind.i64.wrap (a + b) = a + b := IntWalk.i64_in _ (by omega)
  obtain ⟨h1, h2⟩ := h
  have E1 := Lib.hid e1
  clear e1
  go_enter Try.func52, Try.ntmps52
  go_wp2_with fail
  go_ret
  exact ⟨ret_int (by first | rfl | exact E1.out), (Below.refl _ _).alloc (Nat.le_refl _) _⟩
set_option maxRecDepth 100000 in
theorem valid_any (a b : Int) (w : World) (hf : Fits (a, b)) : Calls Try.prog 69 #[.agg #[.int .i64 a, .int .i64 b]] w (BoolPost (validR (a, b)) w) := by
  obtain ⟨⟨_, _⟩, h1, h2⟩ := hf
  simp only at h1 h2
  by_cases h3 : 0 ≤ a
  · by_cases h4 : 1 ≤ b
    · have e1 : IntKind.i64.wrap (1024 - b) = 1024 - b := IntWalk.i64_in _ (by omega)
      have hv : validR (a, b) = decide (a ≤ 1024 - b) := by unfold validR; simp [h3, h4]
      have HV := Lib.hid hv
      clear hv
      go_enter Try.func69, Try.ntmps69
      go_wp2_with fail
      go_ret
      exact boolPost_mk HV.out ((Below.refl _ _).alloc (Nat.le_refl _) _)
    · have hv : validR (a, b) = false := by unfold validR; simp [h4]
      have HV := Lib.hid hv
      clear hv
      go_enter Try.func69, Try.ntmps69
      go_wp2_with fail
      go_ret
      exact boolPost_mk HV.out ((Below.refl _ _).alloc (Nat.le_refl _) _)
  · have hv : validR (a, b) = false := by unfold validR; simp [h3]
    have HV := Lib.hid hv
    clear hv
    go_enter Try.func69, Try.ntmps69
    go_wp2_with fail
    go_ret
    exact boolPost_mk HV.out ((Below.refl _ _).alloc (Nat.le_refl _) _)
end Go.Proofs.Ytnhbilcpdombfaa
