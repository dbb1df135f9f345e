/- The small byte predicates of package words and of its reference, and their loops over a string. -/
import Derived.Test.YtgldpdbdgjehkaaGreatDoorProg
import Derived.WalkKit
import Derived.WalkLawsBesides
import Derived.WalkSpells
import Derived.Lib.Hide
import Derived.Shelf.Abstract
import Derived.Outline
namespace Go.Proofs.YtgldpdbdgjehkaaGreatDoor
open Go.RowKit

def isLetter (c : Int) : Bool := (decide (97 ≤ c) && decide (c ≤ 122)) || (decide (65 ≤ c) && decide (c ≤ 90))
def isDigit (c : Int) : Bool := decide (48 ≤ c) && decide (c ≤ 57)
def isNameByte (c : Int) : Bool := isLetter c || isDigit c || (c == 95)
def isPrintable (c : Int) : Bool := decide (32 ≤ c) && decide (c ≤ 126)

theorem letter_any (c : Int) (w : World) : Calls Tryz.prog 44 #[.int .u8 c] w fun e w' => e = .returned (.bool (isLetter c)) ∧ w = w' := by
  by_cases h1 : 97 ≤ c <;> by_cases h2 : c ≤ 122 <;> by_cases h3 : 65 ≤ c <;> by_cases h4 : c ≤ 90 <;> (go_enter Tryz.func44, Tryz.ntmps44; go_wp2; go_ret; exact ⟨by simp [isLetter, h1, h2, h3, h4], rfl⟩)
theorem digit_any (c : Int) (w : World) : Calls Tryz.prog 72 #[.int .u8 c] w fun e w' => e = .returned (.bool (isDigit c)) ∧ w = w' := by
  by_cases h1 : 48 ≤ c <;> by_cases h2 : c ≤ 57 <;> (go_enter Tryz.func72, Tryz.ntmps72; go_wp2; go_ret; exact ⟨by simp [isDigit, h1, h2], rfl⟩)
theorem printable_any (c : Int) (w : World) : Calls Tryz.prog 49 #[.int .u8 c] w fun e w' => e = .returned (.bool (isPrintable c)) ∧ w = w' := by
  by_cases h1 : 32 ≤ c <;> by_cases h2 : c ≤ 126 <;> (go_enter Tryz.func49, Tryz.ntmps49; go_wp2; go_ret; exact ⟨by simp [isPrintable, h1, h2], rfl⟩)
theorem rletter_any (c : Int) (w : World) : Calls Tryz.prog 47 #[.int .u8 c] w fun e w' => e = .returned (.bool (isLetter c)) ∧ w = w' := by
  by_cases h1 : 97 ≤ c <;> by_cases h2 : c ≤ 122 <;> by_cases h3 : 65 ≤ c <;> by_cases h4 : c ≤ 90 <;> (go_enter Tryz.func47, Tryz.ntmps47; go_wp2; go_ret; exact ⟨by simp [isLetter, h1, h2, h3, h4], rfl⟩)
theorem rdigit_any (c : Int) (w : World) : Calls Tryz.prog 48 #[.int .u8 c] w fun e w' => e = .returned (.bool (isDigit c)) ∧ w = w' := by
  by_cases h1 : 48 ≤ c <;> by_cases h2 : c ≤ 57 <;> (go_enter Tryz.func48, Tryz.ntmps48; go_wp2; go_ret; exact ⟨by simp [isDigit, h1, h2], rfl⟩)
theorem nameByte_core (c : Int) (a b d : Bool) (hd : (c == 95) = d) (h1 : ∀ W, Calls Tryz.prog 44 #[.int .u8 c] W fun e w' => e = .returned (.bool a) ∧ W = w') (h2 : ∀ W, Calls Tryz.prog 72 #[.int .u8 c] W fun e w' => e = .returned (.bool b) ∧ W = w') (w : World) :
    Calls Tryz.prog 46 #[.int .u8 c] w fun e w' => e = .returned (.bool (a || b || d)) ∧ w = w' := by
  have C1 := Lib.hid h1; have C2 := Lib.hid h2; clear h1 h2
  cases a <;> cases b <;> cases d
  all_goals
    go_enter Tryz.func46, Tryz.ntmps46
    go_wp2_with (first | (go_at_call 44; refine (C1.out _).mono ?_; rintro e w' ⟨rfl, rfl⟩) | (go_at_call 72; refine (C2.out _).mono ?_; rintro e w' ⟨rfl, rfl⟩))
    go_ret
    exact ⟨rfl, rfl⟩
theorem nameByte_any (c : Int) (w : World) : Calls Tryz.prog 46 #[.int .u8 c] w fun e w' => e = .returned (.bool (isNameByte c)) ∧ w = w' :=
  nameByte_core c (isLetter c) (isDigit c) (c == 95) rfl (letter_any c) (digit_any c) w
theorem ret_bool {a b : Bool} (h : a = b) : Ending.returned (.bool a) = .returned (.bool b) := by rw [h]
theorem ret_int {k : IntKind} {a b : Int} (h : a = b) : Ending.returned (.int k a) = .returned (.int k b) := by rw [h]
theorem ret_str {a b : ByteArray} (h : a = b) : Ending.returned (.string a) = .returned (.string b) := by rw [h]
/-- all(s, p): every byte passes. -/
def allP (p : Int → Bool) (l : List UInt8) : Bool := l.all fun b => p (b.toNat : Int)
theorem allP_snoc (p : Int → Bool) (l : List UInt8) (b : UInt8) : allP p (l ++ [b]) = (allP p l && p (b.toNat : Int)) := by simp [allP]
theorem take_snoc (s : ByteArray) (k : Nat) (h : k < s.size) : s.data.toList.take (k + 1) = s.data.toList.take k ++ [s[k]] := by
  rw [List.take_succ_eq_append_getElem (by simpa using h)]; rfl
theorem take_all (s : ByteArray) : s.data.toList.take s.size = s.data.toList := List.take_of_length_le (by simp)
theorem allP_take (p : Int → Bool) (s : ByteArray) (k : Nat) (h : k < s.size) (hf : p (s[k].toNat : Int) = false) : allP p s.data.toList = false := by
  rw [← List.take_append_drop (k+1) s.data.toList, take_snoc s k h]
  simp [allP, hf]

set_option maxHeartbeats 400000 in
theorem all_any (g : Nat) (p : Int → Bool) (eg : ∀ args w, (callFunc g args).run Tryz.prog w = .ok (.enter g args) w) (hg : ∀ c W, Calls Tryz.prog g #[.int .u8 c] W fun e w' => e = .returned (.bool (p c)) ∧ W = w') (s : ByteArray) (w : World) (hs : s.size ≤ maxLen) :
    Calls Tryz.prog 45 #[.string s, .func (.func g) #[] #[]] w fun e w' => e = .returned (.bool (allP p s.data.toList)) ∧ w = w' := by
  unfold maxLen at hs
  have HG := Lib.hid hg; clear hg
  go_enter Tryz.func45, Tryz.ntmps45
  go_wp2
  go_loop [5, 8] (fun _ i => ∃ k : Nat, k ≤ s.size ∧ i = .int .i64 k ∧ allP p (s.data.toList.take k) = true) (fun _ i => s.size - (intOf i).toNat)
  case atStart => exact ⟨0, Nat.zero_le _, rfl, rfl⟩
  case round =>
    obtain ⟨k, hk, rfl, hall⟩ := hrel
    have HA := Lib.hid hall; clear hall
    by_cases hlt : k < s.size
    · have hsn : allP p (s.data.toList.take (k + 1)) = (allP p (s.data.toList.take k) && p (s[k].toNat : Int)) := by rw [take_snoc s k hlt, allP_snoc]
      have hno := allP_take p s k hlt
      have HSN := Lib.hid hsn; have HNO := Lib.hid hno; clear hsn hno
      cases hp : p (s[k].toNat : Int)
      all_goals
        have cG : ∀ W, Calls Tryz.prog g #[.int .u8 (s[k].toNat : Int)] W fun e w' => e = .returned (.bool _) ∧ W = w' := fun W => by have := HG.out (s[k].toNat : Int) W; rw [hp] at this; exact this
        have CG := Lib.hid cG; have HP := Lib.hid hp; clear cG hp
        go_wp2_with (go_at_fn g; refine (CG.out _).mono ?_; rintro e w' ⟨rfl, rfl⟩)
      · go_ret
        exact ⟨ret_bool (HNO.out HP.out).symm, rfl⟩
      · go_round
        case rel => exact ⟨k + 1, by omega, by go_num, by rw [HSN.out, HA.out, HP.out]; rfl⟩
        case measure => simp [intOf]; omega
    · go_wp2
      go_ret
      have : k = s.size := by omega
      subst this
      exact ⟨ret_bool (by rw [← take_all]; exact HA.out.symm), rfl⟩
end Go.Proofs.YtgldpdbdgjehkaaGreatDoor
